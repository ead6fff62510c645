/-
  XmA: The table of what calls do.
-/
import Derived.Test.YtheidhkmmihjlaaXm8
set_option linter.unusedVariables false
set_option linter.unusedSimpArgs false
namespace Go.Proofs.Ytheidhkmmihjlaa
open Go.RowKit Go.Shelf Go.Maps
attribute [local go_sem] Oper.semAt_some
/-- The table's cells. -/
def tblL : List Value := [.nilFunc, .nilFunc, .nilFunc, .nilFunc, .nilFunc, .func (.func 45) #[] #[], .func (.func 46) #[] #[], .nilFunc, .nilFunc, .func (.func 47) #[] #[], .func (.func 48) #[] #[], .func (.func 49) #[] #[], .nilFunc, .nilFunc, .func (.func 50) #[] #[], .func (.func 48) #[] #[], .func (.func 51) #[] #[], .nilFunc, .nilFunc, .func (.func 52) #[] #[], .func (.func 48) #[] #[], .func (.func 49) #[] #[], .func (.func 53) #[] #[], .func (.func 54) #[] #[], .func (.func 55) #[] #[], .func (.func 48) #[] #[], .func (.func 49) #[] #[], .func (.func 53) #[] #[], .func (.func 56) #[] #[], .func (.func 55) #[] #[], .func (.func 48) #[] #[], .func (.func 49) #[] #[], .func (.func 56) #[] #[], .nilFunc, .func (.func 57) #[] #[], .func (.func 48) #[] #[], .nilFunc, .nilFunc, .nilFunc, .func (.func 58) #[] #[], .func (.func 48) #[] #[], .nilFunc, .nilFunc, .nilFunc, .func (.func 59) #[] #[], .func (.func 45) #[] #[], .nilFunc, .nilFunc, .nilFunc, .func (.func 60) #[] #[], .func (.func 45) #[] #[], .nilFunc, .nilFunc, .nilFunc, .func (.func 60) #[] #[], .func (.func 45) #[] #[], .nilFunc, .nilFunc, .nilFunc, .func (.func 60) #[] #[]]
def tbl : Array Value := tblL.toArray
def nil60 : Array Value := Array.replicate 60 .nilFunc
section
set_option maxHeartbeats 1000000
set_option maxRecDepth 100000
variable {w : World}
theorem deeds_any (w : World) : Calls Try.prog 34 #[] w fun e w' => e = .returned (.agg tbl) ∧ Below w.heap.size w w' := by
  have hg : (w.alloc (.cells nil60 77)).heap[w.heap.size]? = some (.cells nil60 77 (0, 0)) := heap_alloc_new _ _
  go_enter Try.func34, Try.ntmps34
  go_wp2_with (first
    | (refine wpList_store_row rfl 77 (Operand.tmp 0) (Operand.tmp 23) rfl w.heap.size tbl rfl rfl 77 nil60 ?_ ?_ rfl ?_ ?_
       · exact hg
       · kernel_rfl
       · kernel_rfl)
    | fail)
  refine bodyPost_ret (v := .agg tbl) (results_cell_row (p := 0) (ty := 77) rfl _ _ w.heap.size 77 tbl (0, 0) _ rfl (setRow_heap _ _ _ _ _ _ hg) Try.underlying77 rfl (by kernel_rfl)) rfl ⟨rfl, ?_⟩
  exact row_below (ML.below1 w (.cells nil60 77)) (Nat.le_refl _) tbl
theorem do_nil (w : World) (C : Cl) : Calls Try.prog 13 #[.pointer none, C.v] w fun e w' => e = .returned (rp0 1 .empty false 0) ∧ Below w.heap.size w w' := by
  have HN := xhide none_nil
  go_enter Try.func13, Try.ntmps13
  go_wp2_with fail
  refine (HN.out _).mono ?_
  rintro e w1 ⟨rfl, rfl⟩
  go_wp2
  refine bodyPost_ret (v := rp0 1 .empty false 0) (results_cell_row (p := 4) (ty := 41) rfl _ _ (w.heap.size + 1) 41 _ (0, 0) _ rfl (ML.heap_alloc_at (by simp) _) Try.underlying41 rfl (by kernel_rfl)) rfl ?_
  exact ⟨rfl, ML.below2 _ _ _⟩
variable {X b : Nat} {c : Option Nat} {S : Ms} {C : Cl}
theorem do_bad (h : Pm w X b c S) (hk : C.kind < 1 ∨ 11 < C.kind) : Calls Try.prog 13 #[ptr X, C.v] w fun e w' => Dn w w' X b c (S, { code := 151 }) e := by
  have hb := ML.below2 w C.obj rpB
  have HN := xhide (none_any (h.below hb))
  have H := xhide h
  clear h
  rcases (show C.kind < 1 ∨ 1 ≤ C.kind by omega) with d1 | d1
  · go_enter Try.func13, Try.ntmps13
    go_wp2_with fail
    refine HN.out.mono ?_
    rintro e w1 ⟨rfl, rfl⟩
    go_wp2
    refine bodyPost_ret (v := rp0 151 .empty false 0) (results_cell_row (p := 4) (ty := 41) rfl _ _ (w.heap.size + 1) 41 _ (0, 0) _ rfl (ML.heap_alloc_at (by simp) _) Try.underlying41 rfl (by kernel_rfl)) rfl ?_
    have hb' := ML.below2 w C.obj (.cells (rpA 151 .empty false (.slice none 0 0) 0) 41)
    exact ⟨_, c, rfl, rpv0 _ _ _ _ _ _, H.out.below hb', Chg.below hb', .inl rfl⟩
  · have d2 : 11 < C.kind := by omega
    have d3 : ¬ C.kind < 1 := by omega
    go_enter Try.func13, Try.ntmps13
    go_wp2_with fail
    refine HN.out.mono ?_
    rintro e w1 ⟨rfl, rfl⟩
    go_wp2
    refine bodyPost_ret (v := rp0 151 .empty false 0) (results_cell_row (p := 4) (ty := 41) rfl _ _ (w.heap.size + 1) 41 _ (0, 0) _ rfl (ML.heap_alloc_at (by simp) _) Try.underlying41 rfl (by kernel_rfl)) rfl ?_
    have hb' := ML.below2 w C.obj (.cells (rpA 151 .empty false (.slice none 0 0) 0) 41)
    exact ⟨_, c, rfl, rpv0 _ _ _ _ _ _, H.out.below hb', Chg.below hb', .inl rfl⟩
end
end Go.Proofs.Ytheidhkmmihjlaa
