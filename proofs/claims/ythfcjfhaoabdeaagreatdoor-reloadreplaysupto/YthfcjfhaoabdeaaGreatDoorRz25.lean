/-
  MrA: The program's Rows.
-/
import Derived.Test.YthfcjfhaoabdeaaGreatDoorRz24
import Derived.Lib.SlBytesConst
set_option linter.unusedVariables false
set_option linter.unusedSimpArgs false
namespace Go.Proofs.YthfcjfhaoabdeaaGreatDoor.ML
open Go.RowKit Go.Shelf
attribute [local go_sem] Oper.semAt_some

section
set_option maxHeartbeats 8000000
set_option maxRecDepth 100000
theorem rr_empty (w : World) : Rr (w.alloc (.cells #[] 33)) w.heap.size (.slice (some ⟨w.heap.size, 0, none⟩) 0 0) [] :=
  ⟨rfl, .inr ⟨w.heap.size, 0, #[], rfl, Nat.le_refl _, heap_alloc_new _ _, Nat.le_refl _, Nat.zero_le _, rfl, rfl⟩⟩
theorem allR_len {L xs : List Ro} (h : AllR L xs) : xs.length ≤ L.length := by
  have h1 : xs.Nodup := List.Pairwise.of_map Ro.k (fun a b h e => h (by rw [e])) h.1
  have h2 : ∀ x ∈ xs, x ∈ L := fun x hx => List.mem_of_find?_eq_some ((h.2 x).1 hx)
  clear h
  induction xs generalizing L with
  | nil => exact Nat.zero_le _
  | cons a xs ih =>
    have ha := h2 a List.mem_cons_self
    have hn := List.nodup_cons.1 h1
    have := ih (L := L.erase a) hn.2 (fun x hx => (List.mem_erase_of_ne (fun q : x = a => hn.1 (by rw [← q]; exact hx))).2 (h2 x (List.mem_cons_of_mem _ hx)))
    rw [List.length_erase_of_mem ha] at this
    have := List.length_pos_of_mem ha
    simp only [List.length_cons]
    omega

variable {w : World} {ao bo go : Option Addr} {la ca lb cb lg cg : Nat} {a b : List Ro} {gone : List Gn}
end
end Go.Proofs.YthfcjfhaoabdeaaGreatDoor.ML

/-
  MrB: Are rows the same; rows that are copied; rows that are written over.
-/
set_option linter.unusedVariables false
set_option linter.unusedSimpArgs false
namespace Go.Proofs.YthfcjfhaoabdeaaGreatDoor.ML
open Go.RowKit Go.Shelf
attribute [local go_sem] Oper.semAt_some

section
set_option maxHeartbeats 4000000
set_option maxRecDepth 100000
variable {w : World} {ao bo : Option Addr} {len ca cb : Nat} {l : List Ro}
theorem htRo : Tryz.prog.underlying 33 = some (.struct (Tryz.prog.fieldsOf 33)) := by kernel_rfl
theorem hpRo : Tryz.prog.stoodInHeld 33 = false := by kernel_rfl
theorem neqRo (r : Ro) (u : World) : (binOp .neq 33 (.agg #[.string r.k, .string r.v, .int .i64 r.t]) (.agg #[.string r.k, .string r.v, .int .i64 r.t])).run Tryz.prog u = .ok (.bool false) u := by
  rw [run_neq_struct, run_equalIn_agg _ 9999 33 _ _ htRo hpRo]
  unfold Program.fieldsOf
  rw [Tryz.underlying33]
  simp only [Op.eqFields]
  simp [go_sem, Tryz.isAgg9, Tryz.isAgg2, Tryz.sizeOf9, Tryz.sizeOf2, Tryz.underlying9, Tryz.underlying2]
theorem sameRows_any (h : RS w ao len ca l) (h2 : RS w bo len cb l) :
    Calls Tryz.prog 7 #[.slice ao len ca, .slice bo len cb] w fun e w' => e = .returned (.bool true) ∧ ∃ q, w' = w.drewN q := by
  have hmx := h.2.2.1
  have hle := h.2.1
  have hmx2 := h2.2.2.1
  have hle2 := h2.2.1
  unfold maxLen at hmx hmx2
  have hxl := h.1
  have H := hide2 h
  have H2 := hide2 h2
  clear h h2
  go_enter Tryz.func7, Tryz.ntmps7
  go_wp2
  go_loopw [5] (fun i wr => ∃ k q : Nat, k ≤ len ∧ i = .int .i64 (k : Nat) ∧ wr = w.drewN q) (fun i _ => len - (intOf i).toNat)
  case atStart => exact ⟨0, 0, by omega, rfl, rfl⟩
  case round =>
    obtain ⟨k, q, hk, rfl, hw⟩ := hrel
    subst hw
    by_cases hlt : k < len
    · obtain ⟨r, hr⟩ := some_at hxl hlt
      obtain ⟨g, off, rfl, hg, hc⟩ := RS.at H.out (by omega)
      obtain ⟨g2, off2, rfl, hg2, hc2⟩ := RS.at H2.out (by omega)
      obtain ⟨c0, c1, c2⟩ := hc k r hr
      obtain ⟨e0, e1, e2⟩ := hc2 k r hr
      have hneq := fun u => neqRo r u
      have d1 : (k : Int) < (len : Int) := by omega
      clear hc hc2 hr
      go_wp2
      go_quiet (fail)
      go_wp2
      go_roundw
      case rel => exact ⟨k + 1, _, by omega, by go_num, by first | rfl | exact World.drewN_drewN _ _ _⟩
      case measure => simp [intOf]; omega
    · have e1 : k = len := by omega
      subst e1
      have d1 : ¬ (k : Int) < (k : Int) := by omega
      go_wp2
      go_ret
      exact ⟨rfl, q, rfl⟩
end
end Go.Proofs.YthfcjfhaoabdeaaGreatDoor.ML
