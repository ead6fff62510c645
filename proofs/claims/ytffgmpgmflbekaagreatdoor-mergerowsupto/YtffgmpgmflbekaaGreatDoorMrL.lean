/-
  MrL: The rows and the rest that came in, opened with the second form's own bound; the listed tables at the witness's start.
-/
import Derived.Test.YtffgmpgmflbekaaGreatDoorMrC
import Derived.Test.YtffgmpgmflbekaaGreatDoorTie
import Derived.Test.YtffgmpgmflbekaaGreatDoorCards
import Derived.ProofKit
import Derived.LaidMore
import Derived.Lib.LaidTab
import Derived.Stop.Joined
import Derived.OpenShut
set_option linter.unusedVariables false
set_option linter.unusedSimpArgs false
namespace Go.Proofs.YtffgmpgmflbekaaGreatDoor
open Go.RowKit Go.ChangeShapes Go.WideShapes Go.ChangeAt

theorem bulk_one {H : Type} (d : DataW H) : 1 ≤ Rows.uptoBulk d := by
  cases d with
  | lit l => cases l <;> simp [Rows.uptoBulk]
  | nil => simp [Rows.uptoBulk]
  | ptr d => simp [Rows.uptoBulk]
  | slice elems spare => simp [Rows.uptoBulk]
  | agg parts => simp [Rows.uptoBulk]
  | iface t d => simp [Rows.uptoBulk]
  | map entries => simp [Rows.uptoBulk]
  | held h => simp [Rows.uptoBulk]
theorem bulk_length {H : Type} : ∀ (l : List (DataW H)), l.length ≤ Rows.uptoBulkAll l
  | [] => by simp [Rows.uptoBulkAll]
  | x :: r => by
    have h1 := bulk_one x
    have h2 := bulk_length r
    simp only [Rows.uptoBulkAll, List.length_cons]
    omega
theorem bulk_mem {H : Type} : ∀ {l : List (DataW H)} {d : DataW H}, d ∈ l → Rows.uptoBulk d ≤ Rows.uptoBulkAll l
  | x :: r, d, h => by
    rcases List.mem_cons.1 h with rfl | h
    · simp only [Rows.uptoBulkAll]; omega
    · have := bulk_mem h
      simp only [Rows.uptoBulkAll]; omega

/-- Elements of more than one place each: so they are fewer. -/
theorem bulk_three {H : Type} : ∀ (l : List (DataW H)), (∀ d ∈ l, 2 ≤ Rows.uptoBulk d) → 2 * l.length ≤ Rows.uptoBulkAll l
  | [], _ => by simp [Rows.uptoBulkAll]
  | x :: r, h => by
    have h1 := h x (List.mem_cons_self ..)
    have h2 := bulk_three r (fun d hd => h d (List.mem_cons_of_mem _ hd))
    simp only [Rows.uptoBulkAll, List.length_cons]
    omega
/-- As open_seq; an element's reading may use the bulk's bound. -/
theorem open_seqB {α H : Type} {enc : TypeId × Value → H} {P : Program} {W : World} {t e : TypeId} {a : Option Addr} {len cap k : Nat} {d : DataW H} {p : List MemPlace} (f : α → List Value) (ok : α → Prop)
    (ht : P.underlying t = some (.slice e)) (hk : P.cellsOf e = k) (hk0 : 0 < k) (hf : ∀ x, ok x → (f x).length = k)
    (one : ∀ (m : Nat) (cs : List Value) (y : DataW H × List MemPlace), cs.length = k → DataW.trod enc P W 0 (fun _ => true) true m e cs = some y → Rows.uptoBulk y.1 ≤ 1048576 → ∃ x, ok x ∧ cs = f x)
    (two : ∀ (m : Nat) (cs : List Value) (y : DataW H × List MemPlace), cs.length = k → DataW.trod enc P W 0 (fun _ => true) true m e cs = some y → 2 ≤ Rows.uptoBulk y.1)
    (h : DataW.Trod enc P W 0 (fun _ => true) true t (.slice a len cap) d p) (hw : Rows.uptoBulk d ≤ 1048576) : ∃ xs : List α, (∀ x ∈ xs, ok x) ∧ Seq k f W a len cap xs ∧ (a = none → cap = 0) ∧ len ≤ 1000000 := by
  obtain ⟨fuel, hf2⟩ := h
  rcases DataW.trod_slice ht hf2 with ⟨hcs, hdn⟩ | ⟨x, l, c, elems, rest, n, _, hcs, hds, _, hl, hm, hlen, hel, _, _⟩
  · simp [Value.cells] at hcs
    obtain ⟨rfl, rfl, rfl⟩ := hcs
    exact ⟨[], (fun o ho => by cases ho), ⟨rfl, Nat.le_refl _, Nat.zero_le _, fun h => absurd h (by omega)⟩, fun _ => rfl, Nat.zero_le _⟩
  · simp [Value.cells] at hcs
    obtain ⟨rfl, rfl, rfl⟩ := hcs
    have hd1 : d = .slice (elems.map (·.1)) (rest.map (·.1)) := (Prod.mk.inj hds).1
    have each : ∀ i, i < len → ∃ o : α, ok o ∧ W.cells? 0 (x.add (i * k)) k = some (f o) := fun i hi => by
      have h1 := hel i hi
      obtain ⟨y, hy⟩ := some_at hlen hi
      rw [hy, hk, Option.bind_eq_some_iff] at h1
      obtain ⟨cs, hc, ht2⟩ := h1
      obtain ⟨o, ho, rfl⟩ := one _ _ _ (World.cells?_some hc).2.1 ht2 (by
        have h3 := bulk_mem (d := y.1) (l := elems.map (·.1)) (List.mem_map.2 ⟨y, List.mem_of_getElem? hy, rfl⟩)
        rw [hd1] at hw
        simp only [Rows.uptoBulk] at hw
        omega)
      exact ⟨o, ho, hc⟩
    have hall : ∀ n, n ≤ len → ∃ os : List α, os.length = n ∧ (∀ o ∈ os, ok o) ∧ ∀ (i : Nat) (o : α), os[i]? = some o → W.cells? 0 (x.add (i * k)) k = some (f o) := fun n => by
      induction n with
      | zero => exact fun _ => ⟨[], rfl, (fun o ho => by cases ho), (fun i o hi => by cases hi)⟩
      | succ n ih =>
        intro hn
        obtain ⟨os, e1, e2, e3⟩ := ih (by omega)
        obtain ⟨o, ho, hc⟩ := each n (by omega)
        refine ⟨os ++ [o], by simp [e1], fun o' ho' => ?_, fun i o' hi => ?_⟩
        · rcases List.mem_append.1 ho' with h | h
          · exact e2 o' h
          · simp at h; subst h; exact ho
        · by_cases e : i < os.length
          · rw [List.getElem?_append_left e] at hi
            exact e3 i o' hi
          · rw [List.getElem?_append_right (by omega)] at hi
            have e4 : i - os.length = 0 := by
              rcases Nat.eq_zero_or_pos (i - os.length) with h | h
              · exact h
              · rw [List.getElem?_eq_none (by simp; omega)] at hi; cases hi
            rw [e4] at hi
            cases hi
            obtain rfl : i = n := by omega
            exact hc
    obtain ⟨os, e1, e2, e3⟩ := hall len (Nat.le_refl _)
    refine ⟨os, e2, ⟨e1, hl, hm, fun h0 => ?_⟩, (fun h => by cases h), by
      have h3 := bulk_three (elems.map (·.1)) (fun d hd => by
        obtain ⟨y, hy, rfl⟩ := List.mem_map.1 hd
        obtain ⟨i, hi, hyi⟩ := List.getElem_of_mem hy
        have h1 := hel i (by omega)
        rw [List.getElem?_eq_getElem hi, hyi, hk, Option.bind_eq_some_iff] at h1
        obtain ⟨cs, hc, ht2⟩ := h1
        exact two _ _ _ (World.cells?_some hc).2.1 ht2)
      rw [hd1] at hw
      simp only [Rows.uptoBulk] at hw
      simp only [List.length_map] at h3
      omega⟩
    obtain ⟨o0, ho0⟩ := some_at e1 h0
    have hc0 := (World.cells?_some (e3 0 o0 ho0)).2.2 0 hk0
    obtain ⟨b, off, sp⟩ := x
    have hok0 := hf o0 (e2 o0 (List.mem_of_getElem? ho0))
    obtain ⟨u0, hu0⟩ := some_at hok0 hk0
    have hc1 : W.cell? (((⟨b, off, sp⟩ : Addr).add (0 * k)).add 0) = some u0 := hc0.trans hu0
    have hsp : sp = none := by simpa [Addr.add] using World.cell?_spot hc1
    subst hsp
    refine ⟨b, off, rfl, ?_, fun i o hi j u hu => ?_⟩
    · rw [addr_plus, addr_plus] at hc1
      exact World.block_lt_of_cell? W _ hc1
    · have hj : j < k := by
        have h1 := (List.getElem?_eq_some_iff.1 hu).1
        have h2 := hf o (e2 o (List.mem_of_getElem? hi))
        omega
      have := (World.cells?_some (e3 i o hi)).2.2 j hj
      rw [addr_plus, addr_plus] at this
      rw [this]
      exact hu

theorem cI64 : Tryz.prog.cellsOf 2 = 1 := by kernel_rfl
theorem cSt : Tryz.prog.cellsOf 9 = 1 := by kernel_rfl
theorem cRow : Tryz.prog.cellsOf 28 = 3 := by kernel_rfl
theorem cGone : Tryz.prog.cellsOf 30 = 2 := by kernel_rfl
section
variable {H : Type} {enc : TypeId × Value → H} {W : World} {d : DataW H} {p : List MemPlace} {a : Option Addr} {len cap : Nat}
theorem len_str (k : ByteArray) : k.data.toList.length = k.size := by rw [Array.length_toList]; rfl
set_option maxRecDepth 100000 in
theorem row_of {n : Nat} {cs : List Value} {y : DataW H × List MemPlace} (hl : cs.length = 3) (ht : DataW.trod enc Tryz.prog W 0 (fun _ => true) true n 28 cs = some y) (hb : Rows.uptoBulk y.1 ≤ 1048576) : ∃ o : Ro, o.ok ∧ cs = o.cl := by
  obtain ⟨xs, m, _, hy, _, hxl, hfs⟩ := DataW.trod_struct Tryz.underlying28 ht
  have hx3 : xs.length = 3 := hxl
  match cs, hl, xs, hx3 with
  | [c0, c1, c2], _, [y0, y1, y2], _ =>
    have h0 := (field_at hfs 0 9 0 _ cSt rfl)
    have h1 := (field_at hfs 1 9 1 _ cSt rfl)
    have h2 := (field_at hfs 2 2 2 _ cI64 rfl)
    simp only [List.drop, List.take] at h0 h1 h2
    obtain ⟨k0, q0, r0, _⟩ := DataW.trod_string Tryz.underlying9 h0
    obtain ⟨k1, q1, r1, _⟩ := DataW.trod_string Tryz.underlying9 h1
    obtain ⟨k2, q2, r2, s2⟩ := DataW.trod_int Tryz.underlying2 h2
    simp only [List.cons.injEq, and_true] at q0 q1 q2
    subst q0 q1 q2
    subst hy r0 r1 r2
    simp only [List.map_cons, List.map_nil, Rows.uptoBulk, Rows.uptoBulkAll, len_str] at hb
    exact ⟨⟨k0, k1, k2⟩, ⟨show k0.size ≤ 1048576 by omega, show k1.size ≤ 1048576 by omega, bounds_i64 s2⟩, rfl⟩
set_option maxRecDepth 100000 in
theorem gone_of {n : Nat} {cs : List Value} {y : DataW H × List MemPlace} (hl : cs.length = 2) (ht : DataW.trod enc Tryz.prog W 0 (fun _ => true) true n 30 cs = some y) (hb : Rows.uptoBulk y.1 ≤ 1048576) : ∃ o : Gn, o.ok ∧ cs = o.cl := by
  obtain ⟨xs, m, _, hy, _, hxl, hfs⟩ := DataW.trod_struct Tryz.underlying30 ht
  have hx3 : xs.length = 2 := hxl
  match cs, hl, xs, hx3 with
  | [c0, c1], _, [y0, y1], _ =>
    have h0 := (field_at hfs 0 9 0 _ cSt rfl)
    have h1 := (field_at hfs 1 2 1 _ cI64 rfl)
    simp only [List.drop, List.take] at h0 h1
    obtain ⟨k0, q0, r0, _⟩ := DataW.trod_string Tryz.underlying9 h0
    obtain ⟨k1, q1, r1, s1⟩ := DataW.trod_int Tryz.underlying2 h1
    simp only [List.cons.injEq, and_true] at q0 q1
    subst q0 q1
    subst hy r0 r1
    simp only [List.map_cons, List.map_nil, Rows.uptoBulk, Rows.uptoBulkAll, len_str] at hb
    exact ⟨⟨k0, k1⟩, ⟨show k0.size ≤ 1048576 by omega, bounds_i64 s1⟩, rfl⟩
theorem open_rowsB (h : DataW.Trod enc Tryz.prog W 0 (fun _ => true) true 22 (.slice a len cap) d p) (hb : Rows.uptoBulk d ≤ 1048576) : ∃ xs : List Ro, (∀ x ∈ xs, x.ok) ∧ RS W a len cap xs ∧ (a = none → cap = 0) ∧ len ≤ 1000000 :=
  open_seqB Ro.cl Ro.ok Tryz.underlying22 cRow (by decide) (fun _ _ => rfl) (fun m cs y hl hy hb => row_of hl hy hb) (fun m cs y hl hy => by
    obtain ⟨xs, m, _, hy, _, hxl, hfs⟩ := DataW.trod_struct Tryz.underlying28 hy
    have hx3 : xs.length = 3 := hxl
    subst hy
    have := bulk_length (xs.map (·.1))
    simp only [List.length_map] at this
    simp only [Rows.uptoBulk]
    omega) h hb
theorem open_gonesB (h : DataW.Trod enc Tryz.prog W 0 (fun _ => true) true 23 (.slice a len cap) d p) (hb : Rows.uptoBulk d ≤ 1048576) : ∃ xs : List Gn, (∀ x ∈ xs, x.ok) ∧ GS W a len cap xs ∧ (a = none → cap = 0) ∧ len ≤ 1000000 :=
  open_seqB Gn.cl Gn.ok Tryz.underlying23 cGone (by decide) (fun _ _ => rfl) (fun m cs y hl hy hb => gone_of hl hy hb) (fun m cs y hl hy => by
    obtain ⟨xs, m, _, hy, _, hxl, hfs⟩ := DataW.trod_struct Tryz.underlying30 hy
    have hx3 : xs.length = 2 := hxl
    subst hy
    have := bulk_length (xs.map (·.1))
    simp only [List.length_map] at this
    simp only [Rows.uptoBulk]
    omega) h hb
end
theorem door_met (os : Os) (args : Array Value) : laidMetH Tryz.prog Rows.mergeRowsUptoRow.laid ((World.doorLaid Tryz.prog 400 os).forCall (fun _ _ => 0) ⟨#[], args, []⟩).memory :=
  laidMetH_of_parts3 (fuel := 8) (laidMet_of_run' 8 (by kernel_rfl) (by kernel_rfl)) (by kernel_rfl) (by kernel_rfl)
end Go.Proofs.YtffgmpgmflbekaaGreatDoor
