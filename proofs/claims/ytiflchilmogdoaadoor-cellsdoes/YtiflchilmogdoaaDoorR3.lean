/-
  The document's own arena: Do.
-/
import Derived.Test.YtiflchilmogdoaaDoorR2
import Derived.Test.YtiflchilmogdoaaDoorCOpen
set_option linter.unusedVariables false
set_option linter.unusedSimpArgs false
namespace Go.Proofs.YtiflchilmogdoaaDoor
open Go.RowKit

section
variable {w w' : World} {B r n : Nat} {R : List Bool} {H : List Int} {m : Int} {hv tv : Value}

set_option maxRecDepth 100000 in
set_option maxHeartbeats 1000000 in
theorem refDo_bad (h : Rw w B r n R H m hv tv) (hB : B ≤ w.heap.size) (o c a b : Int) (ho : o < 1 ∨ 4 < o) :
    Calls Tryd.prog 26 #[.pointer (some ⟨r, 0, none⟩), opV o c a b] w fun e w' => e = .returned (.tuple #[.int .u64 0, .int .i64 2]) ∧ Rw w' B r n R H m hv tv ∧ Fr (fun k => B ≤ k) w w' := by
  have h1 := h.alloc (opC o c a b)
  have F1 : Fr (fun k => B ≤ k) w (w.alloc (opC o c a b)) := (Fr.refl _ w).alloc _
  by_cases h2 : o < 1
  · have t1 : decide (o < 1) = true := by simpa using h2
    clear ho
    go_enter Tryd.func26, Tryd.ntmps26
    go_wp2
    go_ret2
    exact ⟨rfl, h1, F1⟩
  · have h3 : 4 < o := by omega
    have t1 : decide (o < 1) = false := by simpa using h2
    have t2 : decide (4 < o) = true := by simpa using h3
    clear ho
    go_enter Tryd.func26, Tryd.ntmps26
    go_wp2
    go_ret2
    exact ⟨rfl, h1, F1⟩

set_option maxRecDepth 100000 in
set_option maxHeartbeats 1000000 in
theorem refDo_out (h : Rw w B r n R H m hv tv) (hB : B ≤ w.heap.size) (o c a b : Int) (ho : 1 ≤ o ∧ o ≤ 4) (ht : tk R c = false) :
    Calls Tryd.prog 26 #[.pointer (some ⟨r, 0, none⟩), opV o c a b] w fun e w' => e = .returned (.tuple #[.int .u64 0, .int .i64 30]) ∧ Rw w' B r n R H m hv tv ∧ Fr (fun k => B ≤ k) w w' := by
  have h1 := h.alloc (opC o c a b)
  have F1 : Fr (fun k => B ≤ k) w (w.alloc (opC o c a b)) := (Fr.refl _ w).alloc _
  have hth := there_any h1 c
  rw [ht] at hth
  have HT := hide2 hth
  have t1 : decide (o < 1) = false := by simp; omega
  have t2 : decide (4 < o) = false := by simp; omega
  clear hth ho
  go_enter Tryd.func26, Tryd.ntmps26
  go_wp2_with fail
  refine HT.out.mono ?_
  rintro e w1 ⟨rfl, rfl⟩
  clear HT
  go_wp2
  go_ret2
  exact ⟨rfl, h1, F1⟩

set_option maxRecDepth 100000 in
set_option maxHeartbeats 2000000 in
theorem refDo_load (h : Rw w B r n R H m hv tv) (hB : B ≤ w.heap.size) (c : Nat) (a b : Int) (ht : tk R c = true) (hm : 0 ≤ m ∧ m < 4611686018427387904) :
    Calls Tryd.prog 26 #[.pointer (some ⟨r, 0, none⟩), opV 1 c a b] w fun e w' => e = .returned (.tuple #[.int .u64 (H.getD c 0), .int .i64 0]) ∧ Rw w' B r n R (H) (m + 1) hv tv ∧ Fr (fun k => B ≤ k) w w' := by
  have hc : c < R.length := by simpa using (tk_lt ht).2
  have h1 := h.alloc (opC 1 c a b)
  have hth := there_any h1 (c : Int)
  rw [ht] at hth
  have HT := hide2 hth
  have hrl := h.lt
  obtain ⟨c0, c1, c2, c3⟩ := h.cells
  have f3 := h.free 3
  have h2 := h.many (m + 1)
  have F2 := Fr.setCell (p := ⟨r, 3, none⟩) (Fr.refl (fun k => B ≤ k) w) (.inl h.low) (.int .i64 (m + 1))
  obtain ⟨d0, d1, d2, d3⟩ := h2.cells
  obtain ⟨g, cap, rfl, hg, hcell⟩ := h2.hrow (by omega)
  have hgl := (h2.hr.lt g rfl).2
  have hgl2 : g < w.heap.size := by simpa using hgl
  have hrg : r ≠ g := fun e => h.nh (by rw [e]; rfl)
  obtain ⟨q0, q1⟩ := hcell c hc
  have hc2 : (c : Int) < (R.length : Int) := by omega
  have H2 := hide2 h2
  have HF2 := hide2 F2
  have HH := hide2 h
  clear hth h2 F2 hcell h1 h
  generalize hlen : R.length = len at *
  have HL := hide2 hlen
  clear hlen
  generalize hxx : H.getD c 0 = x at *
  have HX := hide2 hxx
  clear hxx
  go_enter Tryd.func26, Tryd.ntmps26
  go_wp2_with fail
  refine HT.out.mono ?_
  rintro e w1 ⟨rfl, rfl⟩
  clear HT
  go_wp2
  go_quiet (fail)
  go_wp2
  go_ret2
  exact ⟨rfl, (H2.out.alloc _).drewN _, (HF2.out.alloc _).drewN _⟩

set_option maxRecDepth 100000 in
set_option maxHeartbeats 2000000 in
theorem refDo_store (h : Rw w B r n R H m hv tv) (hB : B ≤ w.heap.size) (c : Nat) (a b : Int) (ht : tk R c = true) (hm : 0 ≤ m ∧ m < 4611686018427387904) (ha : U64 a) :
    Calls Tryd.prog 26 #[.pointer (some ⟨r, 0, none⟩), opV 2 c a b] w fun e w' => e = .returned (.tuple #[.int .u64 (0), .int .i64 0]) ∧ Rw w' B r n R (H.set c a) (m + 1) hv tv ∧ Fr (fun k => B ≤ k) w w' := by
  have hc : c < R.length := by simpa using (tk_lt ht).2
  have h1 := h.alloc (opC 2 c a b)
  have hth := there_any h1 (c : Int)
  rw [ht] at hth
  have HT := hide2 hth
  have hrl := h.lt
  obtain ⟨c0, c1, c2, c3⟩ := h.cells
  have f3 := h.free 3
  have h2 := h.many (m + 1)
  have F2 := Fr.setCell (p := ⟨r, 3, none⟩) (Fr.refl (fun k => B ≤ k) w) (.inl h.low) (.int .i64 (m + 1))
  obtain ⟨d0, d1, d2, d3⟩ := h2.cells
  obtain ⟨g, cap, rfl, hg, hcell⟩ := h2.hrow (by omega)
  have hgl := (h2.hr.lt g rfl).2
  have hgl2 : g < w.heap.size := by simpa using hgl
  have hrg : r ≠ g := fun e => h.nh (by rw [e]; rfl)
  obtain ⟨q0, q1⟩ := hcell c hc
  have hc2 : (c : Int) < (R.length : Int) := by omega
  have H2 := hide2 h2
  have HF2 := hide2 F2
  have HH := hide2 h
  clear hth h2 F2 hcell h1 h
  generalize hlen : R.length = len at *
  have HL := hide2 hlen
  clear hlen
  generalize hxx : H.getD c 0 = x at *
  have HX := hide2 hxx
  clear hxx
  go_enter Tryd.func26, Tryd.ntmps26
  go_wp2_with fail
  refine HT.out.mono ?_
  rintro e w1 ⟨rfl, rfl⟩
  clear HT
  go_wp2
  go_quiet (fail)
  go_wp2
  go_region
  all_goals go_wp2
  all_goals go_ret2
  all_goals
    have hl := HL.out
    subst hl
  all_goals exact ⟨rfl, Rw.numb ((H2.out.alloc _).drewN _) c _ ha, Fr.setCell (p := ⟨g, c, none⟩) ((HF2.out.alloc _).drewN _) (.inl hg) _⟩

set_option maxRecDepth 100000 in
set_option maxHeartbeats 2000000 in
theorem refDo_casNo (h : Rw w B r n R H m hv tv) (hB : B ≤ w.heap.size) (c : Nat) (a b : Int) (ht : tk R c = true) (hm : 0 ≤ m ∧ m < 4611686018427387904) (hne : H.getD c 0 ≠ a) :
    Calls Tryd.prog 26 #[.pointer (some ⟨r, 0, none⟩), opV 3 c a b] w fun e w' => e = .returned (.tuple #[.int .u64 (0), .int .i64 0]) ∧ Rw w' B r n R (H) (m + 1) hv tv ∧ Fr (fun k => B ≤ k) w w' := by
  have hc : c < R.length := by simpa using (tk_lt ht).2
  have h1 := h.alloc (opC 3 c a b)
  have hth := there_any h1 (c : Int)
  rw [ht] at hth
  have HT := hide2 hth
  have hrl := h.lt
  obtain ⟨c0, c1, c2, c3⟩ := h.cells
  have f3 := h.free 3
  have h2 := h.many (m + 1)
  have F2 := Fr.setCell (p := ⟨r, 3, none⟩) (Fr.refl (fun k => B ≤ k) w) (.inl h.low) (.int .i64 (m + 1))
  obtain ⟨d0, d1, d2, d3⟩ := h2.cells
  obtain ⟨g, cap, rfl, hg, hcell⟩ := h2.hrow (by omega)
  have hgl := (h2.hr.lt g rfl).2
  have hgl2 : g < w.heap.size := by simpa using hgl
  have hrg : r ≠ g := fun e => h.nh (by rw [e]; rfl)
  obtain ⟨q0, q1⟩ := hcell c hc
  have hc2 : (c : Int) < (R.length : Int) := by omega
  have H2 := hide2 h2
  have HF2 := hide2 F2
  have HH := hide2 h
  clear hth h2 F2 hcell h1 h
  generalize hlen : R.length = len at *
  have HL := hide2 hlen
  clear hlen
  generalize hxx : H.getD c 0 = x at *
  have HX := hide2 hxx
  clear hxx
  have ht1 : (x == a) = false := by simpa using hne
  have ht2 : (x != a) = true := by simpa using hne
  go_enter Tryd.func26, Tryd.ntmps26
  go_wp2_with fail
  refine HT.out.mono ?_
  rintro e w1 ⟨rfl, rfl⟩
  clear HT
  go_wp2
  go_quiet (fail)
  go_wp2
  go_ret2
  exact ⟨rfl, (H2.out.alloc _).drewN _, (HF2.out.alloc _).drewN _⟩

set_option maxRecDepth 100000 in
set_option maxHeartbeats 2000000 in
theorem refDo_casYes (h : Rw w B r n R H m hv tv) (hB : B ≤ w.heap.size) (c : Nat) (a b : Int) (ht : tk R c = true) (hm : 0 ≤ m ∧ m < 4611686018427387904) (hb : U64 b) (heq : H.getD c 0 = a) :
    Calls Tryd.prog 26 #[.pointer (some ⟨r, 0, none⟩), opV 3 c a b] w fun e w' => e = .returned (.tuple #[.int .u64 (1), .int .i64 0]) ∧ Rw w' B r n R (H.set c b) (m + 1) hv tv ∧ Fr (fun k => B ≤ k) w w' := by
  have hc : c < R.length := by simpa using (tk_lt ht).2
  have h1 := h.alloc (opC 3 c a b)
  have hth := there_any h1 (c : Int)
  rw [ht] at hth
  have HT := hide2 hth
  have hrl := h.lt
  obtain ⟨c0, c1, c2, c3⟩ := h.cells
  have f3 := h.free 3
  have h2 := h.many (m + 1)
  have F2 := Fr.setCell (p := ⟨r, 3, none⟩) (Fr.refl (fun k => B ≤ k) w) (.inl h.low) (.int .i64 (m + 1))
  obtain ⟨d0, d1, d2, d3⟩ := h2.cells
  obtain ⟨g, cap, rfl, hg, hcell⟩ := h2.hrow (by omega)
  have hgl := (h2.hr.lt g rfl).2
  have hgl2 : g < w.heap.size := by simpa using hgl
  have hrg : r ≠ g := fun e => h.nh (by rw [e]; rfl)
  obtain ⟨q0, q1⟩ := hcell c hc
  have hc2 : (c : Int) < (R.length : Int) := by omega
  have H2 := hide2 h2
  have HF2 := hide2 F2
  have HH := hide2 h
  clear hth h2 F2 hcell h1 h
  generalize hlen : R.length = len at *
  have HL := hide2 hlen
  clear hlen
  generalize hxx : H.getD c 0 = x at *
  have HX := hide2 hxx
  clear hxx
  have ht1 : (x == a) = true := by simpa using heq
  have ht2 : (x != a) = false := by simpa using heq
  go_enter Tryd.func26, Tryd.ntmps26
  go_wp2_with fail
  refine HT.out.mono ?_
  rintro e w1 ⟨rfl, rfl⟩
  clear HT
  go_wp2
  go_quiet (fail)
  go_wp2
  go_region
  all_goals go_wp2
  all_goals go_ret2
  all_goals
    have hl := HL.out
    subst hl
  all_goals exact ⟨rfl, Rw.numb ((H2.out.alloc _).drewN _) c _ hb, Fr.setCell (p := ⟨g, c, none⟩) ((HF2.out.alloc _).drewN _) (.inl hg) _⟩

set_option maxRecDepth 100000 in
set_option maxHeartbeats 2000000 in
theorem refDo_add (h : Rw w B r n R H m hv tv) (hB : B ≤ w.heap.size) (c : Nat) (a b : Int) (ht : tk R c = true) (hm : 0 ≤ m ∧ m < 4611686018427387904) :
    Calls Tryd.prog 26 #[.pointer (some ⟨r, 0, none⟩), opV 4 c a b] w fun e w' => e = .returned (.tuple #[.int .u64 (IntKind.u64.wrap (H.getD c 0 + a)), .int .i64 0]) ∧ Rw w' B r n R (H.set c (IntKind.u64.wrap (H.getD c 0 + a))) (m + 1) hv tv ∧ Fr (fun k => B ≤ k) w w' := by
  have hc : c < R.length := by simpa using (tk_lt ht).2
  have h1 := h.alloc (opC 4 c a b)
  have hth := there_any h1 (c : Int)
  rw [ht] at hth
  have HT := hide2 hth
  have hrl := h.lt
  obtain ⟨c0, c1, c2, c3⟩ := h.cells
  have f3 := h.free 3
  have h2 := h.many (m + 1)
  have F2 := Fr.setCell (p := ⟨r, 3, none⟩) (Fr.refl (fun k => B ≤ k) w) (.inl h.low) (.int .i64 (m + 1))
  obtain ⟨d0, d1, d2, d3⟩ := h2.cells
  obtain ⟨g, cap, rfl, hg, hcell⟩ := h2.hrow (by omega)
  have hgl := (h2.hr.lt g rfl).2
  have hgl2 : g < w.heap.size := by simpa using hgl
  have hrg : r ≠ g := fun e => h.nh (by rw [e]; rfl)
  obtain ⟨q0, q1⟩ := hcell c hc
  have hc2 : (c : Int) < (R.length : Int) := by omega
  have H2 := hide2 h2
  have HF2 := hide2 F2
  have HH := hide2 h
  clear hth h2 F2 hcell h1 h
  generalize hlen : R.length = len at *
  have HL := hide2 hlen
  clear hlen
  generalize hxx : H.getD c 0 = x at *
  have HX := hide2 hxx
  clear hxx
  go_enter Tryd.func26, Tryd.ntmps26
  go_wp2_with fail
  refine HT.out.mono ?_
  rintro e w1 ⟨rfl, rfl⟩
  clear HT
  go_wp2
  go_quiet (fail)
  go_wp2
  go_region
  all_goals go_wp2
  all_goals go_ret2
  all_goals
    have hl := HL.out
    subst hl
  all_goals exact ⟨rfl, Rw.numb ((H2.out.alloc _).drewN _) c _ (by rw [IntKind.wrap_u64]; omega), Fr.setCell (p := ⟨g, c, none⟩) ((HF2.out.alloc _).drewN _) (.inl hg) _⟩

end
end Go.Proofs.YtiflchilmogdoaaDoor
