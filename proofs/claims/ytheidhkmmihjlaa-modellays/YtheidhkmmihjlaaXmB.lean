/-
  XmB: What Do hands back of what a call does.
-/
import Derived.Test.YtheidhkmmihjlaaXmA
import Derived.Laws.EntriesVeiled
set_option linter.unusedVariables false
set_option linter.unusedSimpArgs false
namespace Go.Proofs.Ytheidhkmmihjlaa
open Go.RowKit Go.Shelf Go.Maps
attribute [local go_sem] Oper.semAt_some
section
variable {w : World} {X b : Nat} {c : Option Nat} {S : Ms} {C : Cl}
theorem do_tail {wr w1 : World} {p : Ms × Rp} {v : Value} (h : Pm w X b c S) (hb : Below w.heap.size w wr) (hbig : w.heap.size + 2 ≤ wr.heap.size) (hr : wr.heap[w.heap.size + 1]? = some rpB) (hD : Dn wr w1 X b c p (.returned v)) :
    ∃ sv, v = .agg #[.int .i64 p.2.code, .string p.2.val, .bool p.2.found, sv, .int .i64 p.2.time, .int .i64 0] ∧ w1.heap[w.heap.size + 1]? = some rpB ∧ (∃ ao ln cp, sv = .slice ao ln cp) ∧
      Dn w (rpSet w1 (w.heap.size + 1) (.int .i64 p.2.code) (.string p.2.val) (.bool p.2.found) sv (.int .i64 p.2.time) (.int .i64 0)) X b c p (.returned v) := by
  obtain ⟨v', c', e, ⟨sv, rfl, hsv⟩, hP, hC, hcc⟩ := hD
  cases e
  have hlt := h.lt
  have hltb := h.ltb
  have hnc : ∀ j, c = some j → j < w.heap.size := fun j e => h.ltc e
  have hEx : ¬ Ex X b c (w.heap.size + 1) := fun e => by
    rcases e with e | e | e
    · omega
    · omega
    · have := hnc _ e; omega
  have hr1 : w1.heap[w.heap.size + 1]? = some rpB := (hC.2 _ (by omega) hEx).trans hr
  have hc' : c' ≠ some (w.heap.size + 1) := by
    rcases hcc with e | e | ⟨j, e, hj, _⟩
    · rw [e]; intro q; have := hnc _ q; omega
    · rw [e]; nofun
    · rw [e]; intro q; cases q; omega
  refine ⟨sv, rfl, hr1, ?_, ?_⟩
  · rcases hsv with ⟨rfl, _⟩ | ⟨_, ao, cap, rfl, _⟩
    · exact ⟨_, _, _, rfl⟩
    · exact ⟨_, _, _, rfl⟩
  have hbb := rp_below (Below.refl w.heap.size w1) (g := w.heap.size + 1) (by omega) (.int .i64 p.2.code) (.string p.2.val) (.bool p.2.found) sv (.int .i64 p.2.time) (.int .i64 0)
  refine ⟨_, c', rfl, ⟨sv, rfl, ?_⟩, hP.keep (rp_else (by omega) _ _ _ _ _ _) (rp_else (by omega) _ _ _ _ _ _) (fun c0 e => rp_else (fun q => hc' (by rw [e, q])) _ _ _ _ _ _), ((Chg.below hb).trans hC (fun j hj q => q)).low2 hbb, ?_⟩
  · rcases hsv with q | ⟨q1, q2⟩
    · exact .inl q
    · exact .inr ⟨q1, wr_keep q2 (by omega) (by rw [rp_size]; exact Nat.le_refl _) (fun j hj _ => rp_else (by omega) _ _ _ _ _ _)⟩
  · rcases hcc with e | e | ⟨j, e, hj, q⟩
    · exact .inl e
    · exact .inr (.inl e)
    · exact .inr (.inr ⟨j, e, by omega, q⟩)
theorem do_code {wr : World} {n : Int} (h : Pm w X b c S) (hb : Below w.heap.size w wr) :
    Dn w (rpSet wr (w.heap.size + 1) (.int .i64 n) (.string .empty) (.bool false) (.slice none 0 0) (.int .i64 0) (.int .i64 0)) X b c (S, { code := n }) (.returned (rp0 n .empty false 0)) := by
  have hbb := rp_below hb (g := w.heap.size + 1) (by omega) (.int .i64 n) (.string .empty) (.bool false) (.slice none 0 0) (.int .i64 0) (.int .i64 0)
  exact ⟨_, c, rfl, rpv0 _ _ _ _ _ _, h.below hbb, Chg.below hbb, .inl rfl⟩
theorem wp_then {P : Program} {cd : Code} {K : Act → World → Prop} {Q : Exit → Act → World → Prop} {a : Act} {u : World} (K1 : Act → World → Prop) (h : Code.wp P cd (Exit.then K1 Q) a u) (hk : ∀ a w, K1 a w → Exit.then K Q .normal a w) : Code.wp P cd (Exit.then K Q) a u :=
  Code.wp_mono (fun e a w he => by
    cases e with
    | normal => exact hk a w he
    | _ => exact he) h
abbrev deedObj (a b c d e : Value) : Obj := .cells #[a, b, c, d, e] 76 (0, 0)
theorem deed_cells {w : World} {g : Nat} (h : w.heap[g]? = some (deedObj .nilFunc .nilFunc .nilFunc .nilFunc .nilFunc)) :
    (w.cell? ⟨g, 0, none⟩ = some .nilFunc ∧ w.cell? ⟨g, 1, none⟩ = some .nilFunc ∧ w.cell? ⟨g, 2, none⟩ = some .nilFunc ∧ w.cell? ⟨g, 3, none⟩ = some .nilFunc ∧ w.cell? ⟨g, 4, none⟩ = some .nilFunc) ∧
    (w.frozen? ⟨g, 0, none⟩ = false ∧ w.frozen? ⟨g, 1, none⟩ = false ∧ w.frozen? ⟨g, 2, none⟩ = false ∧ w.frozen? ⟨g, 3, none⟩ = false ∧ w.frozen? ⟨g, 4, none⟩ = false) := by
  refine ⟨⟨?_, ?_, ?_, ?_, ?_⟩, ?_, ?_, ?_, ?_, ?_⟩
  all_goals first
    | exact Go.Joins.unfrozen_of_block h _
    | (rw [Go.Joins.cell_of_block h]; rfl)
theorem deed_set {w : World} {g : Nat} (h : w.heap[g]? = some (deedObj .nilFunc .nilFunc .nilFunc .nilFunc .nilFunc)) (a b c d e : Value) : (((((w.setCell ⟨g, 0, none⟩ a).setCell ⟨g, 1, none⟩ b).setCell ⟨g, 2, none⟩ c).setCell ⟨g, 3, none⟩ d).setCell ⟨g, 4, none⟩ e).heap[g]? = some (deedObj a b c d e) := by
  have h1 := (Go.Joins.block_setCell (i := 0) h a)
  have h2 := (Go.Joins.block_setCell (i := 1) h1 b)
  have h3 := (Go.Joins.block_setCell (i := 2) h2 c)
  have h4 := (Go.Joins.block_setCell (i := 3) h3 d)
  exact (Go.Joins.block_setCell (i := 4) h4 e).trans rfl
theorem low_of {w1 u w3 : World} (hb3 : Below u.heap.size u w3) (h1 : Below w.heap.size w w1) (hs : w1.heap.size = w.heap.size + 2) (hu : Below w1.heap.size w1 u) : Below w.heap.size w w3 ∧ (∀ j, j < w1.heap.size → w3.heap[j]? = w1.heap[j]?) ∧ w1.heap.size ≤ w3.heap.size := by
  have h2 := hu.size
  exact ⟨(h1.trans (hu.mono (by omega))).trans (hb3.mono (by omega)), fun j hj => (hb3.block j (by omega)).trans (hu.block j hj), Nat.le_trans h2 hb3.size⟩
/-- While Do asks what is wrong. -/
structure Lp (w wr : World) (X b : Nat) (c : Option Nat) (S : Ms) (C : Cl) (D : Nat) (o : Obj) : Prop where
  pm : Pm wr X b c S
  cb : wr.heap[w.heap.size]? = some C.obj
  rp : wr.heap[w.heap.size + 1]? = some rpB
  dd : wr.heap[D]? = some o
  low : Below w.heap.size w wr
  big : w.heap.size + 2 ≤ D
theorem Lp.below {wr w' : World} {D : Nat} {o : Obj} (h : Lp w wr X b c S C D o) (hb : Below wr.heap.size wr w') : Lp w w' X b c S C D o := by
  have h1 := (Array.getElem?_eq_some_iff.1 h.dd).1
  have h2 := h.big
  exact ⟨h.pm.below hb, (hb.block _ (by omega)).trans h.cb, (hb.block _ (by omega)).trans h.rp, (hb.block _ h1).trans h.dd, h.low.trans (hb.mono (by omega)), h2⟩
theorem lp_new {w3 : World} (h : Pm w X b c S) (hlow : Below w.heap.size w w3) (hc : w3.heap[w.heap.size]? = some C.obj) (hr : w3.heap[w.heap.size + 1]? = some rpB) (hs : w.heap.size + 2 ≤ w3.heap.size) (o : Obj) : Lp w (w3.alloc o) X b c S C w3.heap.size o := by
  have hb := ML.below1 w3 o
  have hl := hlow.trans (hb.mono (by omega))
  exact ⟨h.below hl, (hb.block _ (by omega)).trans hc, (hb.block _ (by omega)).trans hr, ML.heap_alloc_at rfl _, hl, hs⟩
theorem lp_old {w3 : World} {D : Nat} (h : Pm w X b c S) (hlow : Below w.heap.size w w3) (hc : w3.heap[w.heap.size]? = some C.obj) (hr : w3.heap[w.heap.size + 1]? = some rpB) (hd : w3.heap[D]? = some (deedObj .nilFunc .nilFunc .nilFunc .nilFunc .nilFunc)) (hD : w.heap.size + 2 ≤ D) (x1 x2 x3 x4 x5 : Value) :
    Lp w (((((w3.setCell ⟨D, 0, none⟩ x1).setCell ⟨D, 1, none⟩ x2).setCell ⟨D, 2, none⟩ x3).setCell ⟨D, 3, none⟩ x4).setCell ⟨D, 4, none⟩ x5) X b c S C D (deedObj x1 x2 x3 x4 x5) := by
  have e : ∀ k, k ≠ D → (((((w3.setCell ⟨D, 0, none⟩ x1).setCell ⟨D, 1, none⟩ x2).setCell ⟨D, 2, none⟩ x3).setCell ⟨D, 3, none⟩ x4).setCell ⟨D, 4, none⟩ x5).heap[k]? = w3.heap[k]? := fun k hk => by
    rw [set_else hk, set_else hk, set_else hk, set_else hk, set_else hk]
  have hl : Below w.heap.size w (((((w3.setCell ⟨D, 0, none⟩ x1).setCell ⟨D, 1, none⟩ x2).setCell ⟨D, 2, none⟩ x3).setCell ⟨D, 3, none⟩ x4).setCell ⟨D, 4, none⟩ x5) :=
    ((((hlow.setCell (p := ⟨D, 0, none⟩) (by show w.heap.size ≤ D; omega) x1).setCell (p := ⟨D, 1, none⟩) (by show w.heap.size ≤ D; omega) x2).setCell (p := ⟨D, 2, none⟩) (by show w.heap.size ≤ D; omega) x3).setCell (p := ⟨D, 3, none⟩) (by show w.heap.size ≤ D; omega) x4).setCell (p := ⟨D, 4, none⟩) (by show w.heap.size ≤ D; omega) x5
  exact ⟨h.below hl, (e _ (by omega)).trans hc, (e _ (by omega)).trans hr, deed_set hd _ _ _ _ _, hl, hD⟩
theorem Lp.drew {wr : World} {D : Nat} {o : Obj} (h : Lp w wr X b c S C D o) : Lp w wr.drew X b c S C D o := h.below (Below.refl _ _).drew
end
end Go.Proofs.Ytheidhkmmihjlaa
