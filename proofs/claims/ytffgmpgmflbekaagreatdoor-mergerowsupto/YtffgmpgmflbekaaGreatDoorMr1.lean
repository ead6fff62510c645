/-
  Mr1: The document's own: has, named.
-/
import Derived.Test.YtffgmpgmflbekaaGreatDoorMr0
set_option linter.unusedVariables false
set_option linter.unusedSimpArgs false
namespace Go.Proofs.YtffgmpgmflbekaaGreatDoor
open Go.RowKit
attribute [local go_sem] Oper.semAt_some

def hasK (l : List Ro) (s : ByteArray) : Bool := l.any fun r => decide (r.k = s)
def namedB (l : List Gn) (r : Ro) : Bool := l.any fun g => decide (g.k = r.k) && decide (g.t = r.t)

section
set_option maxHeartbeats 4000000
set_option maxRecDepth 100000
variable {w : World} {ao : Option Addr} {len cap : Nat} {l : List Ro} {gl : List Gn}
theorem has_any (h : RS w ao len cap l) (s : ByteArray) :
    Calls Tryz.prog 110 #[.slice ao len cap, .string s] w fun e w' => e = .returned (.bool (hasK l s)) ∧ w' = w := by
  have hmx := h.2.2.1
  have hle := h.2.1
  unfold maxLen at hmx
  have hxl := h.1
  have H := hide2 h
  clear h
  go_enter Tryz.func110, Tryz.ntmps110
  go_wp2
  go_loop [5] (fun i => ∃ k : Nat, k ≤ len ∧ i = .int .i64 (k : Nat) ∧ Hid (hasK (l.take k) s = false)) (fun i => len - (intOf i).toNat)
  case atStart => exact ⟨0, by omega, rfl, hide2 rfl⟩
  case round =>
    obtain ⟨k, hk, rfl, HN⟩ := hrel
    by_cases hlt : k < len
    · obtain ⟨r, hr⟩ := some_at hxl hlt
      obtain ⟨g, off, rfl, hg, hc⟩ := H.out.at (by omega)
      have c0 := (hc k r hr).1
      have d1 : (k : Int) < (len : Int) := by omega
      have t1 := str_test r.k s
      have HT : Hid (hasK (l.take (k + 1)) s = (hasK (l.take k) s || decide (r.k = s))) := hide2 (by rw [take_snoc hr]; unfold hasK; rw [List.any_append]; simp)
      have HM := hide2 (List.mem_of_getElem? hr)
      clear hc hr
      by_cases e : r.k = s
      · have HY : Hid (hasK l s = true) := hide2 (List.any_eq_true.2 ⟨r, HM.out, by simp [e]⟩)
        rw [decide_eq_true e] at t1
        clear e
        go_wp2
        go_ret
        rw [HY.out]
        exact ⟨rfl, rfl⟩
      · rw [decide_eq_false e] at t1 HT
        clear e
        go_wp2
        go_round
        case rel => exact ⟨k + 1, by omega, by go_num, hide2 (by rw [HT.out, HN.out]; rfl)⟩
        case measure => simp [intOf]; omega
    · have e1 : k = len := by omega
      subst e1
      have d1 : ¬ (k : Int) < (k : Int) := by omega
      have ec : l.take k = l := List.take_of_length_le (by omega)
      rw [ec] at HN
      go_wp2
      go_ret
      rw [HN.out]
      exact ⟨rfl, rfl⟩

theorem named_any (h : GS w ao len cap gl) (r : Ro) :
    Calls Tryz.prog 54 #[.slice ao len cap, r.val] w fun e w' => e = .returned (.bool (namedB gl r)) ∧ Below w.heap.size w w' := by
  have hmx := h.2.2.1
  have hle := h.2.1
  unfold maxLen at hmx
  have hxl := h.1
  have H := hide2 h
  have B0 := hide2 (below1 w (.cells #[.string r.k, .string r.v, .int .i64 r.t] 28))
  obtain ⟨W0, hW0⟩ : ∃ W0, W0 = w.alloc (.cells #[.string r.k, .string r.v, .int .i64 r.t] 28) := ⟨_, rfl⟩
  have hb : W0.heap[w.heap.size]? = some (.cells #[.string r.k, .string r.v, .int .i64 r.t] 28 (0, 0)) := by rw [hW0]; exact heap_alloc_new _ _
  have q0 : W0.cell? ⟨w.heap.size, 0, none⟩ = some (.string r.k) := by rw [Go.Joins.cell_of_block hb]; rfl
  have q2 : W0.cell? ⟨w.heap.size, 2, none⟩ = some (.int .i64 r.t) := by rw [Go.Joins.cell_of_block hb]; rfl
  rw [← hW0] at B0
  clear h hb
  go_enter Tryz.func54, Tryz.ntmps54
  go_wp2
  rw [← hW0]
  clear hW0
  go_loopw [5] (fun i wr => ∃ k : Nat, k ≤ len ∧ i = .int .i64 (k : Nat) ∧ Hid (namedB (gl.take k) r = false) ∧ Hid (∃ q, wr = W0.drewN q)) (fun i _ => len - (intOf i).toNat)
  case atStart => exact ⟨0, by omega, rfl, hide2 rfl, hide2 ⟨0, rfl⟩⟩
  case round =>
    obtain ⟨k, hk, rfl, HN, HQ⟩ := hrel
    obtain ⟨q, hq⟩ := HQ.out
    subst hq
    clear HQ
    by_cases hlt : k < len
    · obtain ⟨x, hx⟩ := some_at hxl hlt
      obtain ⟨g, off, rfl, hg, hc⟩ := H.out.at (by omega)
      have c0 := (B0.out.cell (p := ⟨g, off + k * 2, none⟩) hg).trans (hc k x hx).1
      have c1 := (B0.out.cell (p := ⟨g, off + k * 2 + 1, none⟩) hg).trans (hc k x hx).2
      have d1 : (k : Int) < (len : Int) := by omega
      have t1 := str_test x.k r.k
      have HT : Hid (namedB (gl.take (k + 1)) r = (namedB (gl.take k) r || (decide (x.k = r.k) && decide (x.t = r.t)))) := hide2 (by rw [take_snoc hx]; unfold namedB; rw [List.any_append]; simp)
      have HM := hide2 (List.mem_of_getElem? hx)
      clear hc hx
      by_cases e : x.k = r.k
      · rw [decide_eq_true e] at t1 HT
        by_cases e2 : x.t = r.t
        · have HY : Hid (namedB gl r = true) := hide2 (List.any_eq_true.2 ⟨x, HM.out, by simp [e, e2]⟩)
          have t2 : (x.t == r.t) = true := by simpa using e2
          have t3 : decide (x.t = r.t) = true := decide_eq_true e2
          clear HT e
          go_wp2
          go_quiet (fail)
          go_wp2
          go_ret
          rw [HY.out]
          exact ⟨rfl, below_drewN (below_drewN B0.out _) _⟩
        · rw [decide_eq_false e2] at HT
          have t2 : (x.t == r.t) = false := by simpa using e2
          have t3 : decide (x.t = r.t) = false := decide_eq_false e2
          clear e
          go_wp2
          go_quiet (fail)
          go_wp2
          go_roundw
          case rel => exact ⟨k + 1, by omega, by go_num, hide2 (by rw [HT.out, HN.out]; rfl), hide2 ⟨_, by first | rfl | exact World.drewN_drewN _ _ _⟩⟩
          case measure => simp [intOf]; omega
      · rw [decide_eq_false e] at t1 HT
        clear e
        go_wp2
        go_quiet (fail)
        go_wp2
        go_roundw
        case rel => exact ⟨k + 1, by omega, by go_num, hide2 (by rw [HT.out, HN.out]; rfl), hide2 ⟨_, by first | rfl | exact World.drewN_drewN _ _ _⟩⟩
        case measure => simp [intOf]; omega
    · have e1 : k = len := by omega
      subst e1
      have d1 : ¬ (k : Int) < (k : Int) := by omega
      have ec : gl.take k = gl := List.take_of_length_le (by omega)
      rw [ec] at HN
      go_wp2
      go_ret
      rw [HN.out]
      exact ⟨rfl, below_drewN B0.out _⟩
end
end Go.Proofs.YtffgmpgmflbekaaGreatDoor
