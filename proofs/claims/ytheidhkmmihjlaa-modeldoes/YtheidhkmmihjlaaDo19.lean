/-
  XmB: What Do hands back of what a call does.
-/
import Derived.Test.YtheidhkmmihjlaaDo17
import Derived.Laws.EntriesVeiled
set_option linter.unusedVariables false
set_option linter.unusedSimpArgs false
namespace Go.Proofs.Ytheidhkmmihjlaa
open Go.RowKit Go.Shelf Go.Maps
attribute [local go_sem] Oper.semAt_some
section
variable {w : World} {X b : Nat} {c : Option Nat} {S : Ms} {C : Cl}
theorem do_tail {wr w1 : World} {p : Ms × Rp} {v : Value} (h : Pm w X b c S) (hb : Below w.heap.size w wr) (hbig : w.heap.size + 2 ≤ wr.heap.size) (hr : wr.heap[w.heap.size + 1]? = some rpB) (hD : Dn wr w1 X b c p (.returned v)) :
    ∃ sv, v = .agg #[.int .i64 p.2.code, .string p.2.val, .bool p.2.found, sv, .int .i64 p.2.time, .int .i64 0] ∧ w1.heap[w.heap.size + 1]? = some rpB ∧ (∃ ao ln cp, sv = .slice ao ln cp) ∧
      Dn w (rpSet w1 (w.heap.size + 1) (.int .i64 p.2.code) (.string p.2.val) (.bool p.2.found) sv (.int .i64 p.2.time) (.int .i64 0)) X b c p (.returned v) := by
  obtain ⟨v', c', e, ⟨sv, rfl, hsv⟩, hP, hC, hcc⟩ := hD
  cases e
  have hlt := h.lt
  have hltb := h.ltb
  have hnc : ∀ j, c = some j → j < w.heap.size := fun j e => h.ltc e
  have hEx : ¬ Ex X b c (w.heap.size + 1) := fun e => by
    rcases e with e | e | e
    · omega
    · omega
    · have := hnc _ e; omega
  have hr1 : w1.heap[w.heap.size + 1]? = some rpB := (hC.2 _ (by omega) hEx).trans hr
  have hc' : c' ≠ some (w.heap.size + 1) := by
    rcases hcc with e | e | ⟨j, e, hj, _⟩
    · rw [e]; intro q; have := hnc _ q; omega
    · rw [e]; nofun
    · rw [e]; intro q; cases q; omega
  refine ⟨sv, rfl, hr1, ?_, ?_⟩
  · rcases hsv with ⟨rfl, _⟩ | ⟨_, ao, cap, rfl, _⟩
    · exact ⟨_, _, _, rfl⟩
    · exact ⟨_, _, _, rfl⟩
  have hbb := rp_below (Below.refl w.heap.size w1) (g := w.heap.size + 1) (by omega) (.int .i64 p.2.code) (.string p.2.val) (.bool p.2.found) sv (.int .i64 p.2.time) (.int .i64 0)
  refine ⟨_, c', rfl, ⟨sv, rfl, ?_⟩, hP.keep (rp_else (by omega) _ _ _ _ _ _) (rp_else (by omega) _ _ _ _ _ _) (fun c0 e => rp_else (fun q => hc' (by rw [e, q])) _ _ _ _ _ _), ((Chg.below hb).trans hC (fun j hj q => q)).low2 hbb, ?_⟩
  · rcases hsv with q | ⟨q1, q2⟩
    · exact .inl q
    · exact .inr ⟨q1, wr_keep q2 (by omega) (by rw [rp_size]; exact Nat.le_refl _) (fun j hj _ => rp_else (by omega) _ _ _ _ _ _)⟩
  · rcases hcc with e | e | ⟨j, e, hj, q⟩
    · exact .inl e
    · exact .inr (.inl e)
    · exact .inr (.inr ⟨j, e, by omega, q⟩)
theorem do_code {wr : World} {n : Int} (h : Pm w X b c S) (hb : Below w.heap.size w wr) :
    Dn w (rpSet wr (w.heap.size + 1) (.int .i64 n) (.string .empty) (.bool false) (.slice none 0 0) (.int .i64 0) (.int .i64 0)) X b c (S, { code := n }) (.returned (rp0 n .empty false 0)) := by
  have hbb := rp_below hb (g := w.heap.size + 1) (by omega) (.int .i64 n) (.string .empty) (.bool false) (.slice none 0 0) (.int .i64 0) (.int .i64 0)
  exact ⟨_, c, rfl, rpv0 _ _ _ _ _ _, h.below hbb, Chg.below hbb, .inl rfl⟩
theorem wp_then {P : Program} {cd : Code} {K : Act → World → Prop} {Q : Exit → Act → World → Prop} {a : Act} {u : World} (K1 : Act → World → Prop) (h : Code.wp P cd (Exit.then K1 Q) a u) (hk : ∀ a w, K1 a w → Exit.then K Q .normal a w) : Code.wp P cd (Exit.then K Q) a u :=
  Code.wp_mono (fun e a w he => by
    cases e with
    | normal => exact hk a w he
    | _ => exact he) h
abbrev deedObj (a b c d e : Value) : Obj := .cells #[a, b, c, d, e] 76 (0, 0)
theorem deed_cells {w : World} {g : Nat} (h : w.heap[g]? = some (deedObj .nilFunc .nilFunc .nilFunc .nilFunc .nilFunc)) :
    (w.cell? ⟨g, 0, none⟩ = some .nilFunc ∧ w.cell? ⟨g, 1, none⟩ = some .nilFunc ∧ w.cell? ⟨g, 2, none⟩ = some .nilFunc ∧ w.cell? ⟨g, 3, none⟩ = some .nilFunc ∧ w.cell? ⟨g, 4, none⟩ = some .nilFunc) ∧
    (w.frozen? ⟨g, 0, none⟩ = false ∧ w.frozen? ⟨g, 1, none⟩ = false ∧ w.frozen? ⟨g, 2, none⟩ = false ∧ w.frozen? ⟨g, 3, none⟩ = false ∧ w.frozen? ⟨g, 4, none⟩ = false) := by
  refine ⟨⟨?_, ?_, ?_, ?_, ?_⟩, ?_, ?_, ?_, ?_, ?_⟩
  all_goals first
    | exact Go.Joins.unfrozen_of_block h _
    | (rw [Go.Joins.cell_of_block h]; rfl)
theorem deed_set {w : World} {g : Nat} (h : w.heap[g]? = some (deedObj .nilFunc .nilFunc .nilFunc .nilFunc .nilFunc)) (a b c d e : Value) : (((((w.setCell ⟨g, 0, none⟩ a).setCell ⟨g, 1, none⟩ b).setCell ⟨g, 2, none⟩ c).setCell ⟨g, 3, none⟩ d).setCell ⟨g, 4, none⟩ e).heap[g]? = some (deedObj a b c d e) := by
  have h1 := (Go.Joins.block_setCell (i := 0) h a)
  have h2 := (Go.Joins.block_setCell (i := 1) h1 b)
  have h3 := (Go.Joins.block_setCell (i := 2) h2 c)
  have h4 := (Go.Joins.block_setCell (i := 3) h3 d)
  exact (Go.Joins.block_setCell (i := 4) h4 e).trans rfl
theorem low_of {w1 u w3 : World} (hb3 : Below u.heap.size u w3) (h1 : Below w.heap.size w w1) (hs : w1.heap.size = w.heap.size + 2) (hu : Below w1.heap.size w1 u) : Below w.heap.size w w3 ∧ (∀ j, j < w1.heap.size → w3.heap[j]? = w1.heap[j]?) ∧ w1.heap.size ≤ w3.heap.size := by
  have h2 := hu.size
  exact ⟨(h1.trans (hu.mono (by omega))).trans (hb3.mono (by omega)), fun j hj => (hb3.block j (by omega)).trans (hu.block j hj), Nat.le_trans h2 hb3.size⟩
/-- While Do asks what is wrong. -/
structure Lp (w wr : World) (X b : Nat) (c : Option Nat) (S : Ms) (C : Cl) (D : Nat) (o : Obj) : Prop where
  pm : Pm wr X b c S
  cb : wr.heap[w.heap.size]? = some C.obj
  rp : wr.heap[w.heap.size + 1]? = some rpB
  dd : wr.heap[D]? = some o
  low : Below w.heap.size w wr
  big : w.heap.size + 2 ≤ D
theorem Lp.below {wr w' : World} {D : Nat} {o : Obj} (h : Lp w wr X b c S C D o) (hb : Below wr.heap.size wr w') : Lp w w' X b c S C D o := by
  have h1 := (Array.getElem?_eq_some_iff.1 h.dd).1
  have h2 := h.big
  exact ⟨h.pm.below hb, (hb.block _ (by omega)).trans h.cb, (hb.block _ (by omega)).trans h.rp, (hb.block _ h1).trans h.dd, h.low.trans (hb.mono (by omega)), h2⟩
theorem lp_new {w3 : World} (h : Pm w X b c S) (hlow : Below w.heap.size w w3) (hc : w3.heap[w.heap.size]? = some C.obj) (hr : w3.heap[w.heap.size + 1]? = some rpB) (hs : w.heap.size + 2 ≤ w3.heap.size) (o : Obj) : Lp w (w3.alloc o) X b c S C w3.heap.size o := by
  have hb := ML.below1 w3 o
  have hl := hlow.trans (hb.mono (by omega))
  exact ⟨h.below hl, (hb.block _ (by omega)).trans hc, (hb.block _ (by omega)).trans hr, ML.heap_alloc_at rfl _, hl, hs⟩
theorem lp_old {w3 : World} {D : Nat} (h : Pm w X b c S) (hlow : Below w.heap.size w w3) (hc : w3.heap[w.heap.size]? = some C.obj) (hr : w3.heap[w.heap.size + 1]? = some rpB) (hd : w3.heap[D]? = some (deedObj .nilFunc .nilFunc .nilFunc .nilFunc .nilFunc)) (hD : w.heap.size + 2 ≤ D) (x1 x2 x3 x4 x5 : Value) :
    Lp w (((((w3.setCell ⟨D, 0, none⟩ x1).setCell ⟨D, 1, none⟩ x2).setCell ⟨D, 2, none⟩ x3).setCell ⟨D, 3, none⟩ x4).setCell ⟨D, 4, none⟩ x5) X b c S C D (deedObj x1 x2 x3 x4 x5) := by
  have e : ∀ k, k ≠ D → (((((w3.setCell ⟨D, 0, none⟩ x1).setCell ⟨D, 1, none⟩ x2).setCell ⟨D, 2, none⟩ x3).setCell ⟨D, 3, none⟩ x4).setCell ⟨D, 4, none⟩ x5).heap[k]? = w3.heap[k]? := fun k hk => by
    rw [set_else hk, set_else hk, set_else hk, set_else hk, set_else hk]
  have hl : Below w.heap.size w (((((w3.setCell ⟨D, 0, none⟩ x1).setCell ⟨D, 1, none⟩ x2).setCell ⟨D, 2, none⟩ x3).setCell ⟨D, 3, none⟩ x4).setCell ⟨D, 4, none⟩ x5) :=
    ((((hlow.setCell (p := ⟨D, 0, none⟩) (by show w.heap.size ≤ D; omega) x1).setCell (p := ⟨D, 1, none⟩) (by show w.heap.size ≤ D; omega) x2).setCell (p := ⟨D, 2, none⟩) (by show w.heap.size ≤ D; omega) x3).setCell (p := ⟨D, 3, none⟩) (by show w.heap.size ≤ D; omega) x4).setCell (p := ⟨D, 4, none⟩) (by show w.heap.size ≤ D; omega) x5
  exact ⟨h.below hl, (e _ (by omega)).trans hc, (e _ (by omega)).trans hr, deed_set hd _ _ _ _ _, hl, hD⟩
end
end Go.Proofs.Ytheidhkmmihjlaa

/-
  XmC: Do, kind by kind.
-/
set_option linter.unusedVariables false
set_option linter.unusedSimpArgs false
namespace Go.Proofs.Ytheidhkmmihjlaa
open Go.RowKit Go.Shelf Go.Maps
attribute [local go_sem] Oper.semAt_some
section
set_option maxHeartbeats 1000000
set_option maxRecDepth 100000
variable {w : World} {X b : Nat} {c : Option Nat} {S : Ms} {C : Cl}
theorem do_1 (h : Pm w X b c S) (hLen : S.L.length + 64 ≤ big) (mode draw nn : Int) (key high val : ByteArray) : Calls Try.prog 13 #[ptr X, Cl.v ⟨1, mode, key, high, val, draw, nn⟩] w fun e w' => Dn w w' X b c (stp S (⟨1, mode, key, high, val, draw, nn⟩ : Cl)) e := by
  obtain ⟨W2, hW2, hb2, hz, hr, hc⟩ := laid2 w (⟨1, mode, key, high, val, draw, nn⟩ : Cl)
  have hLen2 : S.L.length + 64 ≤ 1000000000000000 := by unfold big at hLen; omega
  have HN := xhide (none_any (h.below hb2))
  have HD := xhide (fun w => deeds_any w)
  have k0 : W2.cell? ⟨w.heap.size, 0, none⟩ = some (.int .i64 1) := by rw [Go.Joins.cell_of_block hc]; rfl
  have hst : stp S (⟨1, mode, key, high, val, draw, nn⟩ : Cl) = if fst0 (wrg S (⟨1, mode, key, high, val, draw, nn⟩ : Cl) 1) = 0 then ans S (⟨1, mode, key, high, val, draw, nn⟩ : Cl) 1 else (S, { code := fst0 (wrg S (⟨1, mode, key, high, val, draw, nn⟩ : Cl) 1) }) := by unfold stp; rfl
  have hlw : w.heap.size < W2.heap.size := by omega
  have hix : ∀ u : World, (Instr.index 77 (.agg tbl) (.int .i64 1)).run Try.prog u = .ok (.agg #[.func (.func 45) #[] #[], .func (.func 46) #[] #[], .nilFunc, .nilFunc, .func (.func 47) #[] #[]]) u := fun u => by kernel_rfl
  have H := xhide h
  have HB2 := xhide hb2
  have HR := xhide hr
  have HC := xhide hc
  have HZ := xhide hz
  have HST := xhide hst
  clear h hb2 hr hc hz hst
  go_enter Try.func13, Try.ntmps13
  go_wp2_with fail
  rw [← hW2]
  clear hW2
  refine HN.out.mono ?_
  rintro e w1 ⟨rfl, rfl⟩
  go_wp2_with fail
  obtain ⟨K1, HQ, HQ1⟩ : ∃ K1 : Act → World → Prop, Hid (∀ D w', Lp w w' X b c S (⟨1, mode, key, high, val, draw, nn⟩ : Cl) D (deedObj (.func (.func 45) #[] #[]) (.func (.func 46) #[] #[]) .nilFunc .nilFunc (.func (.func 47) #[] #[])) → K1 { tmps := #[ptr X, Cl.v ⟨1, mode, key, high, val, draw, nn⟩, undef, ptr w.heap.size, ptr (w.heap.size + 1), ptr D, undef, undef, undef, ptr X, .bool false, undef, ptr w.heap.size, .int .i64 1, .bool false, .bool false, ptr w.heap.size, .int .i64 1, .bool false, .bool false, undef, .agg tbl, ptr w.heap.size, .int .i64 1, .agg #[.func (.func 45) #[] #[], .func (.func 46) #[] #[], .nilFunc, .nilFunc, .func (.func 47) #[] #[]], undef, undef, undef, undef, undef, undef, undef, undef, undef, undef, undef, undef, undef, undef, undef, undef, undef, undef, undef, undef, undef], defers := [] } w') ∧ Hid (∀ a w', K1 a w' → ∃ D, a = { tmps := #[ptr X, Cl.v ⟨1, mode, key, high, val, draw, nn⟩, undef, ptr w.heap.size, ptr (w.heap.size + 1), ptr D, undef, undef, undef, ptr X, .bool false, undef, ptr w.heap.size, .int .i64 1, .bool false, .bool false, ptr w.heap.size, .int .i64 1, .bool false, .bool false, undef, .agg tbl, ptr w.heap.size, .int .i64 1, .agg #[.func (.func 45) #[] #[], .func (.func 46) #[] #[], .nilFunc, .nilFunc, .func (.func 47) #[] #[]], undef, undef, undef, undef, undef, undef, undef, undef, undef, undef, undef, undef, undef, undef, undef, undef, undef, undef, undef, undef, undef], defers := [] } ∧ Hid (Lp w w' X b c S (⟨1, mode, key, high, val, draw, nn⟩ : Cl) D (deedObj (.func (.func 45) #[] #[]) (.func (.func 46) #[] #[]) .nilFunc .nilFunc (.func (.func 47) #[] #[])))) :=
    ⟨fun a' w' => ∃ D, a' = { tmps := #[ptr X, Cl.v ⟨1, mode, key, high, val, draw, nn⟩, undef, ptr w.heap.size, ptr (w.heap.size + 1), ptr D, undef, undef, undef, ptr X, .bool false, undef, ptr w.heap.size, .int .i64 1, .bool false, .bool false, ptr w.heap.size, .int .i64 1, .bool false, .bool false, undef, .agg tbl, ptr w.heap.size, .int .i64 1, .agg #[.func (.func 45) #[] #[], .func (.func 46) #[] #[], .nilFunc, .nilFunc, .func (.func 47) #[] #[]], undef, undef, undef, undef, undef, undef, undef, undef, undef, undef, undef, undef, undef, undef, undef, undef, undef, undef, undef, undef, undef], defers := [] } ∧ Hid (Lp w w' X b c S (⟨1, mode, key, high, val, draw, nn⟩ : Cl) D (deedObj (.func (.func 45) #[] #[]) (.func (.func 46) #[] #[]) .nilFunc .nilFunc (.func (.func 47) #[] #[]))), xhide (fun D w' h => ⟨D, rfl, xhide h⟩), xhide (fun _ _ h => h)⟩
  refine wp_then K1 ?_ ?_
  · go_region_with (go_at_call 34; refine (HD.out _).mono ?_; rintro e w3 ⟨rfl, hb3⟩; obtain ⟨hlow3, he3, hs3⟩ := low_of hb3 HB2.out HZ.out (by first | exact Below.refl _ _ | exact (Below.refl _ _).drew | exact (ML.below1 _ _).drew | exact ((Below.refl _ _).drew.alloc (Nat.le_refl _) _)); have hc3 := (he3 _ hlw).trans HC.out; have k3 : w3.cell? ⟨w.heap.size, 0, none⟩ = some (.int .i64 1) := (by rw [Go.Joins.cell_of_block hc3]; rfl); have hlw3 : w.heap.size < w3.heap.size := (Array.getElem?_eq_some_iff.1 hc3).1; have hr3 := (he3 (w.heap.size + 1) (by have := HZ.out; omega)).trans HR.out; have hs4 : w.heap.size + 2 ≤ w3.heap.size := (by have := HZ.out; omega); first | (have hd3 : w3.heap[w1.heap.size]? = some (deedObj .nilFunc .nilFunc .nilFunc .nilFunc .nilFunc) := (hb3.block w1.heap.size (by simp)).trans (ML.heap_alloc_at (by simp) _); obtain ⟨⟨p0, p1, p2, p3, p4⟩, r0, r1, r2, r3, r4⟩ := deed_cells hd3; have hlD : w1.heap.size < w3.heap.size := (Array.getElem?_eq_some_iff.1 hd3).1) | skip)
    all_goals
      first
        | exact HQ.out _ _ (lp_old H.out hlow3 hc3 hr3 hd3 (by have := HZ.out; omega) _ _ _ _ _)
        | exact HQ.out _ _ (lp_new H.out hlow3 hc3 hr3 hs4 _)
        | exact HQ.out _ _ (lp_old H.out hlow3 hc3 hr3 hd3 (by have := HZ.out; omega) _ _ _ _ _).drew
        | exact HQ.out _ _ (lp_new H.out hlow3 hc3 hr3 hs4 _).drew
  intro a' w5 hq
  obtain ⟨D, rfl, HL⟩ := HQ1.out a' w5 hq
  clear hq HQ HQ1
  dsimp only []
  have hA := HL.out
  obtain ⟨y0, y1, y2, y3, y4⟩ : w5.cell? ⟨D, 0, none⟩ = some (.func (.func 45) #[] #[]) ∧ w5.cell? ⟨D, 1, none⟩ = some (.func (.func 46) #[] #[]) ∧ w5.cell? ⟨D, 2, none⟩ = some (.nilFunc) ∧ w5.cell? ⟨D, 3, none⟩ = some (.nilFunc) ∧ w5.cell? ⟨D, 4, none⟩ = some (.func (.func 47) #[] #[]) := by
    refine ⟨?_, ?_, ?_, ?_, ?_⟩ <;> (rw [Go.Joins.cell_of_block hA.dd]; rfl)
  have ix0 : ∀ u : World, (Instr.index 73 (.agg #[.func (.func 45) #[] #[], .func (.func 46) #[] #[], .nilFunc, .nilFunc]) (.int .i64 0)).run Try.prog u = .ok (.func (.func 45) #[] #[]) u := fun u => by kernel_rfl
  have ix1 : ∀ u : World, (Instr.index 73 (.agg #[.func (.func 45) #[] #[], .func (.func 46) #[] #[], .nilFunc, .nilFunc]) (.int .i64 1)).run Try.prog u = .ok (.func (.func 46) #[] #[]) u := fun u => by kernel_rfl
  have ix2 : ∀ u : World, (Instr.index 73 (.agg #[.func (.func 45) #[] #[], .func (.func 46) #[] #[], .nilFunc, .nilFunc]) (.int .i64 2)).run Try.prog u = .ok (.nilFunc) u := fun u => by kernel_rfl
  have nq0 : ∀ u : World, (binOp .eql 55 (.func (.func 45) #[] #[]) .nilFunc).run Try.prog u = .ok (.bool false) u := fun u => by kernel_rfl
  have nq1 : ∀ u : World, (binOp .eql 55 (.func (.func 46) #[] #[]) .nilFunc).run Try.prog u = .ok (.bool false) u := fun u => by kernel_rfl
  have nqn : ∀ u : World, (binOp .eql 55 .nilFunc .nilFunc).run Try.prog u = .ok (.bool true) u := fun u => by kernel_rfl
  obtain ⟨p, hp⟩ : ∃ p, p = ans S (⟨1, mode, key, high, val, draw, nn⟩ : Cl) 1 := ⟨_, rfl⟩
  rw [← hp] at HST
  clear hA
  go_wp2_with fail
  go_loopw [27] (fun i wr => ∃ k : Nat, k ≤ 2 ∧ i = .int .i64 (k : Nat) ∧ Hid ((0 < k → (S.ws.isSome) = false) ∧ (1 < k → (badM (⟨1, mode, key, high, val, draw, nn⟩ : Cl)) = false)) ∧ Hid (Lp w wr X b c S (⟨1, mode, key, high, val, draw, nn⟩ : Cl) D (deedObj (.func (.func 45) #[] #[]) (.func (.func 46) #[] #[]) .nilFunc .nilFunc (.func (.func 47) #[] #[])))) (fun i _ => 5 - (intOf i).toNat)
  case atStart => exact ⟨0, by omega, rfl, xhide (by simp), HL⟩
  case round =>
    obtain ⟨k, hk, rfl, HF, HL⟩ := hrel
    have hA := HL.out
    clear y0 y1 y2 y3 y4
    have y4 : wr.cell? ⟨D, 4, none⟩ = some (.func (.func 47) #[] #[]) := by rw [Go.Joins.cell_of_block hA.dd]; rfl
    have zc : ∀ i v, [.int .i64 1, .int .i64 mode, .string key, .string high, .string val, .int .i64 draw, .int .i64 nn][i]? = some v → wr.cell? ⟨w.heap.size, i, none⟩ = some v := by
      intro i v hv
      rw [Go.Joins.cell_of_block hA.cb]
      simpa using hv
    have z0 := zc 0 _ rfl
    have z1 := zc 1 _ rfl
    have z2 := zc 2 _ rfl
    have z3 := zc 3 _ rfl
    have z4 := zc 4 _ rfl
    have z5 := zc 5 _ rfl
    have z6 := zc 6 _ rfl
    obtain ⟨⟨q0, q1, q2, q3, q4, q5⟩, g0, g1, g2, g3, g4, g5⟩ := rp_cells hA.rp
    have hl1 : w.heap.size < wr.heap.size := (Array.getElem?_eq_some_iff.1 hA.cb).1
    have hl2 : w.heap.size + 1 < wr.heap.size := (Array.getElem?_eq_some_iff.1 hA.rp).1
    have hl3 : D < wr.heap.size := (Array.getElem?_eq_some_iff.1 hA.dd).1
    clear zc
    rcases k with _ | _ | k
    · have hL := HL.out
      have HCALL := xhide (isOpen_any hL.pm (⟨1, mode, key, high, val, draw, nn⟩ : Cl))
      clear hL hA
      cases hc : (S.ws.isSome) with
      | true =>
        have hfst : fst0 (wrg S (⟨1, mode, key, high, val, draw, nn⟩ : Cl) 1) = 153 := by unfold wrg fst0; simp [hc, fst0]
        have FIN : Hid (∀ wz, Below wr.heap.size wr wz → Dn w (rpSet wz (w.heap.size + 1) (.int .i64 153) (.string .empty) (.bool false) (.slice none 0 0) (.int .i64 0) (.int .i64 0)) X b c (stp S (⟨1, mode, key, high, val, draw, nn⟩ : Cl)) (.returned (rp0 153 .empty false 0)) ∧ wz.heap[w.heap.size + 1]? = some rpB) := xhide (fun wz hz => by
          rw [HST.out, hfst, if_neg (by decide)]
          exact ⟨do_code H.out (HL.out.below hz).low, (HL.out.below hz).rp⟩)
        go_wp2_with fail
        refine HCALL.out.mono ?_
        rintro e w6 ⟨he, hb6⟩
        rw [hc] at he
        simp only [if_true] at he
        subst he
        obtain ⟨hfin, hr6⟩ := FIN.out w6 hb6
        have HFIN := xhide hfin
        have HR6 := xhide hr6
        obtain ⟨⟨q0, q1, q2, q3, q4, q5⟩, g0, g1, g2, g3, g4, g5⟩ := rp_cells hr6
        have hl2 : w.heap.size + 1 < w6.heap.size := (Array.getElem?_eq_some_iff.1 hr6).1
        clear hfin hr6 FIN HCALL hb6
        go_wp2
        exact bodyPost_ret (v := rp0 153 .empty false 0) (results_cell_row (p := 4) (ty := 41) rfl _ _ (w.heap.size + 1) 41 _ (0, 0) _ rfl (rp_set HR6.out _ _ _ _ _ _) Try.underlying41 rfl (by kernel_rfl)) rfl HFIN.out
      | false =>
        go_wp2_with fail
        refine HCALL.out.mono ?_
        rintro e w6 ⟨he, hb6⟩
        rw [hc] at he
        simp only [if_false, Bool.false_eq_true] at he
        subst he
        have HL6 := xhide (HL.out.below hb6)
        clear HCALL hb6
        go_wp2
        go_roundw
        case rel => exact ⟨1, by omega, by go_num, xhide (by simp [hc]), HL6⟩
        case measure => simp [intOf]
    · have hL := HL.out
      have pv0 := HF.out.1 (by omega)
      have HCALL := xhide (noMode_any X (⟨1, mode, key, high, val, draw, nn⟩ : Cl) wr)
      clear hL hA
      cases hc : (badM (⟨1, mode, key, high, val, draw, nn⟩ : Cl)) with
      | true =>
        have hfst : fst0 (wrg S (⟨1, mode, key, high, val, draw, nn⟩ : Cl) 1) = 151 := by unfold wrg fst0; simp [pv0, hc, fst0]
        have FIN : Hid (∀ wz, Below wr.heap.size wr wz → Dn w (rpSet wz (w.heap.size + 1) (.int .i64 151) (.string .empty) (.bool false) (.slice none 0 0) (.int .i64 0) (.int .i64 0)) X b c (stp S (⟨1, mode, key, high, val, draw, nn⟩ : Cl)) (.returned (rp0 151 .empty false 0)) ∧ wz.heap[w.heap.size + 1]? = some rpB) := xhide (fun wz hz => by
          rw [HST.out, hfst, if_neg (by decide)]
          exact ⟨do_code H.out (HL.out.below hz).low, (HL.out.below hz).rp⟩)
        go_wp2_with fail
        refine HCALL.out.mono ?_
        rintro e w6 ⟨he, hb6⟩
        rw [hc] at he
        simp only [if_true] at he
        subst he
        obtain ⟨hfin, hr6⟩ := FIN.out w6 hb6
        have HFIN := xhide hfin
        have HR6 := xhide hr6
        obtain ⟨⟨q0, q1, q2, q3, q4, q5⟩, g0, g1, g2, g3, g4, g5⟩ := rp_cells hr6
        have hl2 : w.heap.size + 1 < w6.heap.size := (Array.getElem?_eq_some_iff.1 hr6).1
        clear hfin hr6 FIN HCALL hb6
        go_wp2
        exact bodyPost_ret (v := rp0 151 .empty false 0) (results_cell_row (p := 4) (ty := 41) rfl _ _ (w.heap.size + 1) 41 _ (0, 0) _ rfl (rp_set HR6.out _ _ _ _ _ _) Try.underlying41 rfl (by kernel_rfl)) rfl HFIN.out
      | false =>
        go_wp2_with fail
        refine HCALL.out.mono ?_
        rintro e w6 ⟨he, hb6⟩
        rw [hc] at he
        simp only [if_false, Bool.false_eq_true] at he
        subst he
        have HL6 := xhide (HL.out.below hb6)
        clear HCALL hb6
        go_wp2
        go_roundw
        case rel => exact ⟨2, by omega, by go_num, xhide (by simp [pv0, hc]), HL6⟩
        case measure => simp [intOf]
    · have hk0 : k = 0 := by omega
      subst hk0
      have hL := HL.out
      have hcn : c = none := by have h1 := HF.out.1 (by omega); have h2 := hL.pm.wm; cases hw : S.ws with
                                                                                     | none => rw [hw] at h2; exact h2
                                                                                     | some ws => rw [hw] at h1; cases h1
      have pv0 := HF.out.1 (by omega)
      have pv1 := HF.out.2 (by omega)
      have hfst : fst0 (wrg S (⟨1, mode, key, high, val, draw, nn⟩ : Cl) 1) = 0 := by unfold wrg fst0; simp [pv0, pv1, fst0]
      have hstp : stp S (⟨1, mode, key, high, val, draw, nn⟩ : Cl) = p := by rw [HST.out, hfst, if_pos rfl]
      have HCALL : Hid (Calls Try.prog 47 #[ptr X, Cl.v ⟨1, mode, key, high, val, draw, nn⟩] wr fun e w' => Dn wr w' X b c p e) := xhide (by rw [hp, hcn]; exact begin_any (by have := hL.pm; rwa [hcn] at this) (⟨1, mode, key, high, val, draw, nn⟩ : Cl))
      have FIN : Hid (∀ w6 e, Dn wr w6 X b c p e → ∃ v sv, e = .returned v ∧ v = .agg #[.int .i64 p.2.code, .string p.2.val, .bool p.2.found, sv, .int .i64 p.2.time, .int .i64 0] ∧ w6.heap[w.heap.size + 1]? = some rpB ∧ (∃ ao ln cp, sv = .slice ao ln cp) ∧
          Dn w (rpSet w6 (w.heap.size + 1) (.int .i64 p.2.code) (.string p.2.val) (.bool p.2.found) sv (.int .i64 p.2.time) (.int .i64 0)) X b c (stp S (⟨1, mode, key, high, val, draw, nn⟩ : Cl)) (.returned v)) := xhide (fun w6 e hd => by
        have hd' := hd
        obtain ⟨v, c', rfl, _⟩ := hd'
        obtain ⟨sv, e1, e2, e3, e4⟩ := do_tail H.out HL.out.low (by omega) HL.out.rp hd
        exact ⟨v, sv, rfl, e1, e2, e3, by rw [hstp]; exact e4⟩)
      clear hL hA hfst hp
      go_wp2_with fail
      refine HCALL.out.mono ?_
      rintro e w6 hd
      obtain ⟨v, sv, rfl, rfl, hr6, ⟨ao, ln, cp, rfl⟩, hfin⟩ := FIN.out w6 e hd
      have HFIN := xhide hfin
      have HR6 := xhide hr6
      obtain ⟨⟨q0, q1, q2, q3, q4, q5⟩, g0, g1, g2, g3, g4, g5⟩ := rp_cells hr6
      have hl2 : w.heap.size + 1 < w6.heap.size := (Array.getElem?_eq_some_iff.1 hr6).1
      clear hfin hr6 FIN HCALL hd
      go_wp2
      exact bodyPost_ret (results_cell_row (p := 4) (ty := 41) rfl _ _ (w.heap.size + 1) 41 _ (0, 0) _ rfl (rp_set HR6.out _ _ _ _ _ _) Try.underlying41 rfl (by kernel_rfl)) rfl HFIN.out
theorem do_2 (h : Pm w X b c S) (hLen : S.L.length + 64 ≤ big) (mode draw nn : Int) (key high val : ByteArray) : Calls Try.prog 13 #[ptr X, Cl.v ⟨2, mode, key, high, val, draw, nn⟩] w fun e w' => Dn w w' X b c (stp S (⟨2, mode, key, high, val, draw, nn⟩ : Cl)) e := by
  obtain ⟨W2, hW2, hb2, hz, hr, hc⟩ := laid2 w (⟨2, mode, key, high, val, draw, nn⟩ : Cl)
  have hLen2 : S.L.length + 64 ≤ 1000000000000000 := by unfold big at hLen; omega
  have HN := xhide (none_any (h.below hb2))
  have HD := xhide (fun w => deeds_any w)
  have k0 : W2.cell? ⟨w.heap.size, 0, none⟩ = some (.int .i64 2) := by rw [Go.Joins.cell_of_block hc]; rfl
  have hst : stp S (⟨2, mode, key, high, val, draw, nn⟩ : Cl) = if fst0 (wrg S (⟨2, mode, key, high, val, draw, nn⟩ : Cl) 2) = 0 then ans S (⟨2, mode, key, high, val, draw, nn⟩ : Cl) 2 else (S, { code := fst0 (wrg S (⟨2, mode, key, high, val, draw, nn⟩ : Cl) 2) }) := by unfold stp; rfl
  have hlw : w.heap.size < W2.heap.size := by omega
  have hix : ∀ u : World, (Instr.index 77 (.agg tbl) (.int .i64 2)).run Try.prog u = .ok (.agg #[.func (.func 48) #[] #[], .func (.func 49) #[] #[], .nilFunc, .nilFunc, .func (.func 50) #[] #[]]) u := fun u => by kernel_rfl
  have H := xhide h
  have HB2 := xhide hb2
  have HR := xhide hr
  have HC := xhide hc
  have HZ := xhide hz
  have HST := xhide hst
  clear h hb2 hr hc hz hst
  go_enter Try.func13, Try.ntmps13
  go_wp2_with fail
  rw [← hW2]
  clear hW2
  refine HN.out.mono ?_
  rintro e w1 ⟨rfl, rfl⟩
  go_wp2_with fail
  obtain ⟨K1, HQ, HQ1⟩ : ∃ K1 : Act → World → Prop, Hid (∀ D w', Lp w w' X b c S (⟨2, mode, key, high, val, draw, nn⟩ : Cl) D (deedObj (.func (.func 48) #[] #[]) (.func (.func 49) #[] #[]) .nilFunc .nilFunc (.func (.func 50) #[] #[])) → K1 { tmps := #[ptr X, Cl.v ⟨2, mode, key, high, val, draw, nn⟩, undef, ptr w.heap.size, ptr (w.heap.size + 1), ptr D, undef, undef, undef, ptr X, .bool false, undef, ptr w.heap.size, .int .i64 2, .bool false, .bool false, ptr w.heap.size, .int .i64 2, .bool false, .bool false, undef, .agg tbl, ptr w.heap.size, .int .i64 2, .agg #[.func (.func 48) #[] #[], .func (.func 49) #[] #[], .nilFunc, .nilFunc, .func (.func 50) #[] #[]], undef, undef, undef, undef, undef, undef, undef, undef, undef, undef, undef, undef, undef, undef, undef, undef, undef, undef, undef, undef, undef], defers := [] } w') ∧ Hid (∀ a w', K1 a w' → ∃ D, a = { tmps := #[ptr X, Cl.v ⟨2, mode, key, high, val, draw, nn⟩, undef, ptr w.heap.size, ptr (w.heap.size + 1), ptr D, undef, undef, undef, ptr X, .bool false, undef, ptr w.heap.size, .int .i64 2, .bool false, .bool false, ptr w.heap.size, .int .i64 2, .bool false, .bool false, undef, .agg tbl, ptr w.heap.size, .int .i64 2, .agg #[.func (.func 48) #[] #[], .func (.func 49) #[] #[], .nilFunc, .nilFunc, .func (.func 50) #[] #[]], undef, undef, undef, undef, undef, undef, undef, undef, undef, undef, undef, undef, undef, undef, undef, undef, undef, undef, undef, undef, undef], defers := [] } ∧ Hid (Lp w w' X b c S (⟨2, mode, key, high, val, draw, nn⟩ : Cl) D (deedObj (.func (.func 48) #[] #[]) (.func (.func 49) #[] #[]) .nilFunc .nilFunc (.func (.func 50) #[] #[])))) :=
    ⟨fun a' w' => ∃ D, a' = { tmps := #[ptr X, Cl.v ⟨2, mode, key, high, val, draw, nn⟩, undef, ptr w.heap.size, ptr (w.heap.size + 1), ptr D, undef, undef, undef, ptr X, .bool false, undef, ptr w.heap.size, .int .i64 2, .bool false, .bool false, ptr w.heap.size, .int .i64 2, .bool false, .bool false, undef, .agg tbl, ptr w.heap.size, .int .i64 2, .agg #[.func (.func 48) #[] #[], .func (.func 49) #[] #[], .nilFunc, .nilFunc, .func (.func 50) #[] #[]], undef, undef, undef, undef, undef, undef, undef, undef, undef, undef, undef, undef, undef, undef, undef, undef, undef, undef, undef, undef, undef], defers := [] } ∧ Hid (Lp w w' X b c S (⟨2, mode, key, high, val, draw, nn⟩ : Cl) D (deedObj (.func (.func 48) #[] #[]) (.func (.func 49) #[] #[]) .nilFunc .nilFunc (.func (.func 50) #[] #[]))), xhide (fun D w' h => ⟨D, rfl, xhide h⟩), xhide (fun _ _ h => h)⟩
  refine wp_then K1 ?_ ?_
  · go_region_with (go_at_call 34; refine (HD.out _).mono ?_; rintro e w3 ⟨rfl, hb3⟩; obtain ⟨hlow3, he3, hs3⟩ := low_of hb3 HB2.out HZ.out (by first | exact Below.refl _ _ | exact (Below.refl _ _).drew | exact (ML.below1 _ _).drew | exact ((Below.refl _ _).drew.alloc (Nat.le_refl _) _)); have hc3 := (he3 _ hlw).trans HC.out; have k3 : w3.cell? ⟨w.heap.size, 0, none⟩ = some (.int .i64 2) := (by rw [Go.Joins.cell_of_block hc3]; rfl); have hlw3 : w.heap.size < w3.heap.size := (Array.getElem?_eq_some_iff.1 hc3).1; have hr3 := (he3 (w.heap.size + 1) (by have := HZ.out; omega)).trans HR.out; have hs4 : w.heap.size + 2 ≤ w3.heap.size := (by have := HZ.out; omega); first | (have hd3 : w3.heap[w1.heap.size]? = some (deedObj .nilFunc .nilFunc .nilFunc .nilFunc .nilFunc) := (hb3.block w1.heap.size (by simp)).trans (ML.heap_alloc_at (by simp) _); obtain ⟨⟨p0, p1, p2, p3, p4⟩, r0, r1, r2, r3, r4⟩ := deed_cells hd3; have hlD : w1.heap.size < w3.heap.size := (Array.getElem?_eq_some_iff.1 hd3).1) | skip)
    all_goals
      first
        | exact HQ.out _ _ (lp_old H.out hlow3 hc3 hr3 hd3 (by have := HZ.out; omega) _ _ _ _ _)
        | exact HQ.out _ _ (lp_new H.out hlow3 hc3 hr3 hs4 _)
        | exact HQ.out _ _ (lp_old H.out hlow3 hc3 hr3 hd3 (by have := HZ.out; omega) _ _ _ _ _).drew
        | exact HQ.out _ _ (lp_new H.out hlow3 hc3 hr3 hs4 _).drew
  intro a' w5 hq
  obtain ⟨D, rfl, HL⟩ := HQ1.out a' w5 hq
  clear hq HQ HQ1
  dsimp only []
  have hA := HL.out
  obtain ⟨y0, y1, y2, y3, y4⟩ : w5.cell? ⟨D, 0, none⟩ = some (.func (.func 48) #[] #[]) ∧ w5.cell? ⟨D, 1, none⟩ = some (.func (.func 49) #[] #[]) ∧ w5.cell? ⟨D, 2, none⟩ = some (.nilFunc) ∧ w5.cell? ⟨D, 3, none⟩ = some (.nilFunc) ∧ w5.cell? ⟨D, 4, none⟩ = some (.func (.func 50) #[] #[]) := by
    refine ⟨?_, ?_, ?_, ?_, ?_⟩ <;> (rw [Go.Joins.cell_of_block hA.dd]; rfl)
  have ix0 : ∀ u : World, (Instr.index 73 (.agg #[.func (.func 48) #[] #[], .func (.func 49) #[] #[], .nilFunc, .nilFunc]) (.int .i64 0)).run Try.prog u = .ok (.func (.func 48) #[] #[]) u := fun u => by kernel_rfl
  have ix1 : ∀ u : World, (Instr.index 73 (.agg #[.func (.func 48) #[] #[], .func (.func 49) #[] #[], .nilFunc, .nilFunc]) (.int .i64 1)).run Try.prog u = .ok (.func (.func 49) #[] #[]) u := fun u => by kernel_rfl
  have ix2 : ∀ u : World, (Instr.index 73 (.agg #[.func (.func 48) #[] #[], .func (.func 49) #[] #[], .nilFunc, .nilFunc]) (.int .i64 2)).run Try.prog u = .ok (.nilFunc) u := fun u => by kernel_rfl
  have nq0 : ∀ u : World, (binOp .eql 55 (.func (.func 48) #[] #[]) .nilFunc).run Try.prog u = .ok (.bool false) u := fun u => by kernel_rfl
  have nq1 : ∀ u : World, (binOp .eql 55 (.func (.func 49) #[] #[]) .nilFunc).run Try.prog u = .ok (.bool false) u := fun u => by kernel_rfl
  have nqn : ∀ u : World, (binOp .eql 55 .nilFunc .nilFunc).run Try.prog u = .ok (.bool true) u := fun u => by kernel_rfl
  obtain ⟨p, hp⟩ : ∃ p, p = ans S (⟨2, mode, key, high, val, draw, nn⟩ : Cl) 2 := ⟨_, rfl⟩
  rw [← hp] at HST
  clear hA
  go_wp2_with fail
  go_loopw [27] (fun i wr => ∃ k : Nat, k ≤ 2 ∧ i = .int .i64 (k : Nat) ∧ Hid ((0 < k → (S.ws.isNone) = false) ∧ (1 < k → (!isK (⟨2, mode, key, high, val, draw, nn⟩ : Cl).key) = false)) ∧ Hid (Lp w wr X b c S (⟨2, mode, key, high, val, draw, nn⟩ : Cl) D (deedObj (.func (.func 48) #[] #[]) (.func (.func 49) #[] #[]) .nilFunc .nilFunc (.func (.func 50) #[] #[])))) (fun i _ => 5 - (intOf i).toNat)
  case atStart => exact ⟨0, by omega, rfl, xhide (by simp), HL⟩
  case round =>
    obtain ⟨k, hk, rfl, HF, HL⟩ := hrel
    have hA := HL.out
    clear y0 y1 y2 y3 y4
    have y4 : wr.cell? ⟨D, 4, none⟩ = some (.func (.func 50) #[] #[]) := by rw [Go.Joins.cell_of_block hA.dd]; rfl
    have zc : ∀ i v, [.int .i64 2, .int .i64 mode, .string key, .string high, .string val, .int .i64 draw, .int .i64 nn][i]? = some v → wr.cell? ⟨w.heap.size, i, none⟩ = some v := by
      intro i v hv
      rw [Go.Joins.cell_of_block hA.cb]
      simpa using hv
    have z0 := zc 0 _ rfl
    have z1 := zc 1 _ rfl
    have z2 := zc 2 _ rfl
    have z3 := zc 3 _ rfl
    have z4 := zc 4 _ rfl
    have z5 := zc 5 _ rfl
    have z6 := zc 6 _ rfl
    obtain ⟨⟨q0, q1, q2, q3, q4, q5⟩, g0, g1, g2, g3, g4, g5⟩ := rp_cells hA.rp
    have hl1 : w.heap.size < wr.heap.size := (Array.getElem?_eq_some_iff.1 hA.cb).1
    have hl2 : w.heap.size + 1 < wr.heap.size := (Array.getElem?_eq_some_iff.1 hA.rp).1
    have hl3 : D < wr.heap.size := (Array.getElem?_eq_some_iff.1 hA.dd).1
    clear zc
    rcases k with _ | _ | k
    · have hL := HL.out
      have HCALL := xhide (isNotOpen_any hL.pm (⟨2, mode, key, high, val, draw, nn⟩ : Cl))
      clear hL hA
      cases hc : (S.ws.isNone) with
      | true =>
        have hfst : fst0 (wrg S (⟨2, mode, key, high, val, draw, nn⟩ : Cl) 2) = 152 := by unfold wrg fst0; simp [hc, fst0]
        have FIN : Hid (∀ wz, Below wr.heap.size wr wz → Dn w (rpSet wz (w.heap.size + 1) (.int .i64 152) (.string .empty) (.bool false) (.slice none 0 0) (.int .i64 0) (.int .i64 0)) X b c (stp S (⟨2, mode, key, high, val, draw, nn⟩ : Cl)) (.returned (rp0 152 .empty false 0)) ∧ wz.heap[w.heap.size + 1]? = some rpB) := xhide (fun wz hz => by
          rw [HST.out, hfst, if_neg (by decide)]
          exact ⟨do_code H.out (HL.out.below hz).low, (HL.out.below hz).rp⟩)
        go_wp2_with fail
        refine HCALL.out.mono ?_
        rintro e w6 ⟨he, hb6⟩
        rw [hc] at he
        simp only [if_true] at he
        subst he
        obtain ⟨hfin, hr6⟩ := FIN.out w6 hb6
        have HFIN := xhide hfin
        have HR6 := xhide hr6
        obtain ⟨⟨q0, q1, q2, q3, q4, q5⟩, g0, g1, g2, g3, g4, g5⟩ := rp_cells hr6
        have hl2 : w.heap.size + 1 < w6.heap.size := (Array.getElem?_eq_some_iff.1 hr6).1
        clear hfin hr6 FIN HCALL hb6
        go_wp2
        exact bodyPost_ret (v := rp0 152 .empty false 0) (results_cell_row (p := 4) (ty := 41) rfl _ _ (w.heap.size + 1) 41 _ (0, 0) _ rfl (rp_set HR6.out _ _ _ _ _ _) Try.underlying41 rfl (by kernel_rfl)) rfl HFIN.out
      | false =>
        go_wp2_with fail
        refine HCALL.out.mono ?_
        rintro e w6 ⟨he, hb6⟩
        rw [hc] at he
        simp only [if_false, Bool.false_eq_true] at he
        subst he
        have HL6 := xhide (HL.out.below hb6)
        clear HCALL hb6
        go_wp2
        go_roundw
        case rel => exact ⟨1, by omega, by go_num, xhide (by simp [hc]), HL6⟩
        case measure => simp [intOf]
    · have hL := HL.out
      have pv0 := HF.out.1 (by omega)
      have HCALL := xhide (noKey_any X (⟨2, mode, key, high, val, draw, nn⟩ : Cl) wr)
      clear hL hA
      cases hc : (!isK (⟨2, mode, key, high, val, draw, nn⟩ : Cl).key) with
      | true =>
        have hfst : fst0 (wrg S (⟨2, mode, key, high, val, draw, nn⟩ : Cl) 2) = 154 := by unfold wrg fst0; simp [pv0, hc, fst0]
        have FIN : Hid (∀ wz, Below wr.heap.size wr wz → Dn w (rpSet wz (w.heap.size + 1) (.int .i64 154) (.string .empty) (.bool false) (.slice none 0 0) (.int .i64 0) (.int .i64 0)) X b c (stp S (⟨2, mode, key, high, val, draw, nn⟩ : Cl)) (.returned (rp0 154 .empty false 0)) ∧ wz.heap[w.heap.size + 1]? = some rpB) := xhide (fun wz hz => by
          rw [HST.out, hfst, if_neg (by decide)]
          exact ⟨do_code H.out (HL.out.below hz).low, (HL.out.below hz).rp⟩)
        go_wp2_with fail
        refine HCALL.out.mono ?_
        rintro e w6 ⟨he, hb6⟩
        rw [hc] at he
        simp only [if_true] at he
        subst he
        obtain ⟨hfin, hr6⟩ := FIN.out w6 hb6
        have HFIN := xhide hfin
        have HR6 := xhide hr6
        obtain ⟨⟨q0, q1, q2, q3, q4, q5⟩, g0, g1, g2, g3, g4, g5⟩ := rp_cells hr6
        have hl2 : w.heap.size + 1 < w6.heap.size := (Array.getElem?_eq_some_iff.1 hr6).1
        clear hfin hr6 FIN HCALL hb6
        go_wp2
        exact bodyPost_ret (v := rp0 154 .empty false 0) (results_cell_row (p := 4) (ty := 41) rfl _ _ (w.heap.size + 1) 41 _ (0, 0) _ rfl (rp_set HR6.out _ _ _ _ _ _) Try.underlying41 rfl (by kernel_rfl)) rfl HFIN.out
      | false =>
        go_wp2_with fail
        refine HCALL.out.mono ?_
        rintro e w6 ⟨he, hb6⟩
        rw [hc] at he
        simp only [if_false, Bool.false_eq_true] at he
        subst he
        have HL6 := xhide (HL.out.below hb6)
        clear HCALL hb6
        go_wp2
        go_roundw
        case rel => exact ⟨2, by omega, by go_num, xhide (by simp [pv0, hc]), HL6⟩
        case measure => simp [intOf]
    · have hk0 : k = 0 := by omega
      subst hk0
      have hL := HL.out
      have hopen : S.ws ≠ none := by have := HF.out.1 (by omega); intro e; rw [e] at this; cases this
      have hiK : isK ((⟨2, mode, key, high, val, draw, nn⟩ : Cl)).key = true := by have := HF.out.2 (by omega); simpa using this
      have hkey : ((⟨2, mode, key, high, val, draw, nn⟩ : Cl)).key.size ≤ maxLen := by have := (isK_iff.1 hiK).2; unfold maxLen; omega
      have pv0 := HF.out.1 (by omega)
      have pv1 := HF.out.2 (by omega)
      have hfst : fst0 (wrg S (⟨2, mode, key, high, val, draw, nn⟩ : Cl) 2) = 0 := by unfold wrg fst0; simp [pv0, pv1, fst0]
      have hstp : stp S (⟨2, mode, key, high, val, draw, nn⟩ : Cl) = p := by rw [HST.out, hfst, if_pos rfl]
      have HCALL : Hid (Calls Try.prog 50 #[ptr X, Cl.v ⟨2, mode, key, high, val, draw, nn⟩] wr fun e w' => Dn wr w' X b c p e) := xhide (by rw [hp]; exact get_any hL.pm hopen hkey)
      have FIN : Hid (∀ w6 e, Dn wr w6 X b c p e → ∃ v sv, e = .returned v ∧ v = .agg #[.int .i64 p.2.code, .string p.2.val, .bool p.2.found, sv, .int .i64 p.2.time, .int .i64 0] ∧ w6.heap[w.heap.size + 1]? = some rpB ∧ (∃ ao ln cp, sv = .slice ao ln cp) ∧
          Dn w (rpSet w6 (w.heap.size + 1) (.int .i64 p.2.code) (.string p.2.val) (.bool p.2.found) sv (.int .i64 p.2.time) (.int .i64 0)) X b c (stp S (⟨2, mode, key, high, val, draw, nn⟩ : Cl)) (.returned v)) := xhide (fun w6 e hd => by
        have hd' := hd
        obtain ⟨v, c', rfl, _⟩ := hd'
        obtain ⟨sv, e1, e2, e3, e4⟩ := do_tail H.out HL.out.low (by omega) HL.out.rp hd
        exact ⟨v, sv, rfl, e1, e2, e3, by rw [hstp]; exact e4⟩)
      clear hL hA hfst hp
      go_wp2_with fail
      refine HCALL.out.mono ?_
      rintro e w6 hd
      obtain ⟨v, sv, rfl, rfl, hr6, ⟨ao, ln, cp, rfl⟩, hfin⟩ := FIN.out w6 e hd
      have HFIN := xhide hfin
      have HR6 := xhide hr6
      obtain ⟨⟨q0, q1, q2, q3, q4, q5⟩, g0, g1, g2, g3, g4, g5⟩ := rp_cells hr6
      have hl2 : w.heap.size + 1 < w6.heap.size := (Array.getElem?_eq_some_iff.1 hr6).1
      clear hfin hr6 FIN HCALL hd
      go_wp2
      exact bodyPost_ret (results_cell_row (p := 4) (ty := 41) rfl _ _ (w.heap.size + 1) 41 _ (0, 0) _ rfl (rp_set HR6.out _ _ _ _ _ _) Try.underlying41 rfl (by kernel_rfl)) rfl HFIN.out
theorem do_3 (h : Pm w X b c S) (hLen : S.L.length + 64 ≤ big) (mode draw nn : Int) (key high val : ByteArray) : Calls Try.prog 13 #[ptr X, Cl.v ⟨3, mode, key, high, val, draw, nn⟩] w fun e w' => Dn w w' X b c (stp S (⟨3, mode, key, high, val, draw, nn⟩ : Cl)) e := by
  obtain ⟨W2, hW2, hb2, hz, hr, hc⟩ := laid2 w (⟨3, mode, key, high, val, draw, nn⟩ : Cl)
  have hLen2 : S.L.length + 64 ≤ 1000000000000000 := by unfold big at hLen; omega
  have HN := xhide (none_any (h.below hb2))
  have HD := xhide (fun w => deeds_any w)
  have k0 : W2.cell? ⟨w.heap.size, 0, none⟩ = some (.int .i64 3) := by rw [Go.Joins.cell_of_block hc]; rfl
  have hst : stp S (⟨3, mode, key, high, val, draw, nn⟩ : Cl) = if fst0 (wrg S (⟨3, mode, key, high, val, draw, nn⟩ : Cl) 3) = 0 then ans S (⟨3, mode, key, high, val, draw, nn⟩ : Cl) 3 else (S, { code := fst0 (wrg S (⟨3, mode, key, high, val, draw, nn⟩ : Cl) 3) }) := by unfold stp; rfl
  have hlw : w.heap.size < W2.heap.size := by omega
  have hix : ∀ u : World, (Instr.index 77 (.agg tbl) (.int .i64 3)).run Try.prog u = .ok (.agg #[.func (.func 48) #[] #[], .func (.func 51) #[] #[], .nilFunc, .nilFunc, .func (.func 52) #[] #[]]) u := fun u => by kernel_rfl
  have H := xhide h
  have HB2 := xhide hb2
  have HR := xhide hr
  have HC := xhide hc
  have HZ := xhide hz
  have HST := xhide hst
  clear h hb2 hr hc hz hst
  go_enter Try.func13, Try.ntmps13
  go_wp2_with fail
  rw [← hW2]
  clear hW2
  refine HN.out.mono ?_
  rintro e w1 ⟨rfl, rfl⟩
  go_wp2_with fail
  obtain ⟨K1, HQ, HQ1⟩ : ∃ K1 : Act → World → Prop, Hid (∀ D w', Lp w w' X b c S (⟨3, mode, key, high, val, draw, nn⟩ : Cl) D (deedObj (.func (.func 48) #[] #[]) (.func (.func 51) #[] #[]) .nilFunc .nilFunc (.func (.func 52) #[] #[])) → K1 { tmps := #[ptr X, Cl.v ⟨3, mode, key, high, val, draw, nn⟩, undef, ptr w.heap.size, ptr (w.heap.size + 1), ptr D, undef, undef, undef, ptr X, .bool false, undef, ptr w.heap.size, .int .i64 3, .bool false, .bool false, ptr w.heap.size, .int .i64 3, .bool false, .bool false, undef, .agg tbl, ptr w.heap.size, .int .i64 3, .agg #[.func (.func 48) #[] #[], .func (.func 51) #[] #[], .nilFunc, .nilFunc, .func (.func 52) #[] #[]], undef, undef, undef, undef, undef, undef, undef, undef, undef, undef, undef, undef, undef, undef, undef, undef, undef, undef, undef, undef, undef], defers := [] } w') ∧ Hid (∀ a w', K1 a w' → ∃ D, a = { tmps := #[ptr X, Cl.v ⟨3, mode, key, high, val, draw, nn⟩, undef, ptr w.heap.size, ptr (w.heap.size + 1), ptr D, undef, undef, undef, ptr X, .bool false, undef, ptr w.heap.size, .int .i64 3, .bool false, .bool false, ptr w.heap.size, .int .i64 3, .bool false, .bool false, undef, .agg tbl, ptr w.heap.size, .int .i64 3, .agg #[.func (.func 48) #[] #[], .func (.func 51) #[] #[], .nilFunc, .nilFunc, .func (.func 52) #[] #[]], undef, undef, undef, undef, undef, undef, undef, undef, undef, undef, undef, undef, undef, undef, undef, undef, undef, undef, undef, undef, undef], defers := [] } ∧ Hid (Lp w w' X b c S (⟨3, mode, key, high, val, draw, nn⟩ : Cl) D (deedObj (.func (.func 48) #[] #[]) (.func (.func 51) #[] #[]) .nilFunc .nilFunc (.func (.func 52) #[] #[])))) :=
    ⟨fun a' w' => ∃ D, a' = { tmps := #[ptr X, Cl.v ⟨3, mode, key, high, val, draw, nn⟩, undef, ptr w.heap.size, ptr (w.heap.size + 1), ptr D, undef, undef, undef, ptr X, .bool false, undef, ptr w.heap.size, .int .i64 3, .bool false, .bool false, ptr w.heap.size, .int .i64 3, .bool false, .bool false, undef, .agg tbl, ptr w.heap.size, .int .i64 3, .agg #[.func (.func 48) #[] #[], .func (.func 51) #[] #[], .nilFunc, .nilFunc, .func (.func 52) #[] #[]], undef, undef, undef, undef, undef, undef, undef, undef, undef, undef, undef, undef, undef, undef, undef, undef, undef, undef, undef, undef, undef], defers := [] } ∧ Hid (Lp w w' X b c S (⟨3, mode, key, high, val, draw, nn⟩ : Cl) D (deedObj (.func (.func 48) #[] #[]) (.func (.func 51) #[] #[]) .nilFunc .nilFunc (.func (.func 52) #[] #[]))), xhide (fun D w' h => ⟨D, rfl, xhide h⟩), xhide (fun _ _ h => h)⟩
  refine wp_then K1 ?_ ?_
  · go_region_with (go_at_call 34; refine (HD.out _).mono ?_; rintro e w3 ⟨rfl, hb3⟩; obtain ⟨hlow3, he3, hs3⟩ := low_of hb3 HB2.out HZ.out (by first | exact Below.refl _ _ | exact (Below.refl _ _).drew | exact (ML.below1 _ _).drew | exact ((Below.refl _ _).drew.alloc (Nat.le_refl _) _)); have hc3 := (he3 _ hlw).trans HC.out; have k3 : w3.cell? ⟨w.heap.size, 0, none⟩ = some (.int .i64 3) := (by rw [Go.Joins.cell_of_block hc3]; rfl); have hlw3 : w.heap.size < w3.heap.size := (Array.getElem?_eq_some_iff.1 hc3).1; have hr3 := (he3 (w.heap.size + 1) (by have := HZ.out; omega)).trans HR.out; have hs4 : w.heap.size + 2 ≤ w3.heap.size := (by have := HZ.out; omega); first | (have hd3 : w3.heap[w1.heap.size]? = some (deedObj .nilFunc .nilFunc .nilFunc .nilFunc .nilFunc) := (hb3.block w1.heap.size (by simp)).trans (ML.heap_alloc_at (by simp) _); obtain ⟨⟨p0, p1, p2, p3, p4⟩, r0, r1, r2, r3, r4⟩ := deed_cells hd3; have hlD : w1.heap.size < w3.heap.size := (Array.getElem?_eq_some_iff.1 hd3).1) | skip)
    all_goals
      first
        | exact HQ.out _ _ (lp_old H.out hlow3 hc3 hr3 hd3 (by have := HZ.out; omega) _ _ _ _ _)
        | exact HQ.out _ _ (lp_new H.out hlow3 hc3 hr3 hs4 _)
        | exact HQ.out _ _ (lp_old H.out hlow3 hc3 hr3 hd3 (by have := HZ.out; omega) _ _ _ _ _).drew
        | exact HQ.out _ _ (lp_new H.out hlow3 hc3 hr3 hs4 _).drew
  intro a' w5 hq
  obtain ⟨D, rfl, HL⟩ := HQ1.out a' w5 hq
  clear hq HQ HQ1
  dsimp only []
  have hA := HL.out
  obtain ⟨y0, y1, y2, y3, y4⟩ : w5.cell? ⟨D, 0, none⟩ = some (.func (.func 48) #[] #[]) ∧ w5.cell? ⟨D, 1, none⟩ = some (.func (.func 51) #[] #[]) ∧ w5.cell? ⟨D, 2, none⟩ = some (.nilFunc) ∧ w5.cell? ⟨D, 3, none⟩ = some (.nilFunc) ∧ w5.cell? ⟨D, 4, none⟩ = some (.func (.func 52) #[] #[]) := by
    refine ⟨?_, ?_, ?_, ?_, ?_⟩ <;> (rw [Go.Joins.cell_of_block hA.dd]; rfl)
  have ix0 : ∀ u : World, (Instr.index 73 (.agg #[.func (.func 48) #[] #[], .func (.func 51) #[] #[], .nilFunc, .nilFunc]) (.int .i64 0)).run Try.prog u = .ok (.func (.func 48) #[] #[]) u := fun u => by kernel_rfl
  have ix1 : ∀ u : World, (Instr.index 73 (.agg #[.func (.func 48) #[] #[], .func (.func 51) #[] #[], .nilFunc, .nilFunc]) (.int .i64 1)).run Try.prog u = .ok (.func (.func 51) #[] #[]) u := fun u => by kernel_rfl
  have ix2 : ∀ u : World, (Instr.index 73 (.agg #[.func (.func 48) #[] #[], .func (.func 51) #[] #[], .nilFunc, .nilFunc]) (.int .i64 2)).run Try.prog u = .ok (.nilFunc) u := fun u => by kernel_rfl
  have nq0 : ∀ u : World, (binOp .eql 55 (.func (.func 48) #[] #[]) .nilFunc).run Try.prog u = .ok (.bool false) u := fun u => by kernel_rfl
  have nq1 : ∀ u : World, (binOp .eql 55 (.func (.func 51) #[] #[]) .nilFunc).run Try.prog u = .ok (.bool false) u := fun u => by kernel_rfl
  have nqn : ∀ u : World, (binOp .eql 55 .nilFunc .nilFunc).run Try.prog u = .ok (.bool true) u := fun u => by kernel_rfl
  obtain ⟨p, hp⟩ : ∃ p, p = ans S (⟨3, mode, key, high, val, draw, nn⟩ : Cl) 3 := ⟨_, rfl⟩
  rw [← hp] at HST
  clear hA
  go_wp2_with fail
  go_loopw [27] (fun i wr => ∃ k : Nat, k ≤ 2 ∧ i = .int .i64 (k : Nat) ∧ Hid ((0 < k → (S.ws.isNone) = false) ∧ (1 < k → (badS (⟨3, mode, key, high, val, draw, nn⟩ : Cl)) = false)) ∧ Hid (Lp w wr X b c S (⟨3, mode, key, high, val, draw, nn⟩ : Cl) D (deedObj (.func (.func 48) #[] #[]) (.func (.func 51) #[] #[]) .nilFunc .nilFunc (.func (.func 52) #[] #[])))) (fun i _ => 5 - (intOf i).toNat)
  case atStart => exact ⟨0, by omega, rfl, xhide (by simp), HL⟩
  case round =>
    obtain ⟨k, hk, rfl, HF, HL⟩ := hrel
    have hA := HL.out
    clear y0 y1 y2 y3 y4
    have y4 : wr.cell? ⟨D, 4, none⟩ = some (.func (.func 52) #[] #[]) := by rw [Go.Joins.cell_of_block hA.dd]; rfl
    have zc : ∀ i v, [.int .i64 3, .int .i64 mode, .string key, .string high, .string val, .int .i64 draw, .int .i64 nn][i]? = some v → wr.cell? ⟨w.heap.size, i, none⟩ = some v := by
      intro i v hv
      rw [Go.Joins.cell_of_block hA.cb]
      simpa using hv
    have z0 := zc 0 _ rfl
    have z1 := zc 1 _ rfl
    have z2 := zc 2 _ rfl
    have z3 := zc 3 _ rfl
    have z4 := zc 4 _ rfl
    have z5 := zc 5 _ rfl
    have z6 := zc 6 _ rfl
    obtain ⟨⟨q0, q1, q2, q3, q4, q5⟩, g0, g1, g2, g3, g4, g5⟩ := rp_cells hA.rp
    have hl1 : w.heap.size < wr.heap.size := (Array.getElem?_eq_some_iff.1 hA.cb).1
    have hl2 : w.heap.size + 1 < wr.heap.size := (Array.getElem?_eq_some_iff.1 hA.rp).1
    have hl3 : D < wr.heap.size := (Array.getElem?_eq_some_iff.1 hA.dd).1
    clear zc
    rcases k with _ | _ | k
    · have hL := HL.out
      have HCALL := xhide (isNotOpen_any hL.pm (⟨3, mode, key, high, val, draw, nn⟩ : Cl))
      clear hL hA
      cases hc : (S.ws.isNone) with
      | true =>
        have hfst : fst0 (wrg S (⟨3, mode, key, high, val, draw, nn⟩ : Cl) 3) = 152 := by unfold wrg fst0; simp [hc, fst0]
        have FIN : Hid (∀ wz, Below wr.heap.size wr wz → Dn w (rpSet wz (w.heap.size + 1) (.int .i64 152) (.string .empty) (.bool false) (.slice none 0 0) (.int .i64 0) (.int .i64 0)) X b c (stp S (⟨3, mode, key, high, val, draw, nn⟩ : Cl)) (.returned (rp0 152 .empty false 0)) ∧ wz.heap[w.heap.size + 1]? = some rpB) := xhide (fun wz hz => by
          rw [HST.out, hfst, if_neg (by decide)]
          exact ⟨do_code H.out (HL.out.below hz).low, (HL.out.below hz).rp⟩)
        go_wp2_with fail
        refine HCALL.out.mono ?_
        rintro e w6 ⟨he, hb6⟩
        rw [hc] at he
        simp only [if_true] at he
        subst he
        obtain ⟨hfin, hr6⟩ := FIN.out w6 hb6
        have HFIN := xhide hfin
        have HR6 := xhide hr6
        obtain ⟨⟨q0, q1, q2, q3, q4, q5⟩, g0, g1, g2, g3, g4, g5⟩ := rp_cells hr6
        have hl2 : w.heap.size + 1 < w6.heap.size := (Array.getElem?_eq_some_iff.1 hr6).1
        clear hfin hr6 FIN HCALL hb6
        go_wp2
        exact bodyPost_ret (v := rp0 152 .empty false 0) (results_cell_row (p := 4) (ty := 41) rfl _ _ (w.heap.size + 1) 41 _ (0, 0) _ rfl (rp_set HR6.out _ _ _ _ _ _) Try.underlying41 rfl (by kernel_rfl)) rfl HFIN.out
      | false =>
        go_wp2_with fail
        refine HCALL.out.mono ?_
        rintro e w6 ⟨he, hb6⟩
        rw [hc] at he
        simp only [if_false, Bool.false_eq_true] at he
        subst he
        have HL6 := xhide (HL.out.below hb6)
        clear HCALL hb6
        go_wp2
        go_roundw
        case rel => exact ⟨1, by omega, by go_num, xhide (by simp [hc]), HL6⟩
        case measure => simp [intOf]
    · have hL := HL.out
      have pv0 := HF.out.1 (by omega)
      have HCALL := xhide (noSpan_any X (⟨3, mode, key, high, val, draw, nn⟩ : Cl) wr)
      clear hL hA
      cases hc : (badS (⟨3, mode, key, high, val, draw, nn⟩ : Cl)) with
      | true =>
        have hfst : fst0 (wrg S (⟨3, mode, key, high, val, draw, nn⟩ : Cl) 3) = 154 := by unfold wrg fst0; simp [pv0, hc, fst0]
        have FIN : Hid (∀ wz, Below wr.heap.size wr wz → Dn w (rpSet wz (w.heap.size + 1) (.int .i64 154) (.string .empty) (.bool false) (.slice none 0 0) (.int .i64 0) (.int .i64 0)) X b c (stp S (⟨3, mode, key, high, val, draw, nn⟩ : Cl)) (.returned (rp0 154 .empty false 0)) ∧ wz.heap[w.heap.size + 1]? = some rpB) := xhide (fun wz hz => by
          rw [HST.out, hfst, if_neg (by decide)]
          exact ⟨do_code H.out (HL.out.below hz).low, (HL.out.below hz).rp⟩)
        go_wp2_with fail
        refine HCALL.out.mono ?_
        rintro e w6 ⟨he, hb6⟩
        rw [hc] at he
        simp only [if_true] at he
        subst he
        obtain ⟨hfin, hr6⟩ := FIN.out w6 hb6
        have HFIN := xhide hfin
        have HR6 := xhide hr6
        obtain ⟨⟨q0, q1, q2, q3, q4, q5⟩, g0, g1, g2, g3, g4, g5⟩ := rp_cells hr6
        have hl2 : w.heap.size + 1 < w6.heap.size := (Array.getElem?_eq_some_iff.1 hr6).1
        clear hfin hr6 FIN HCALL hb6
        go_wp2
        exact bodyPost_ret (v := rp0 154 .empty false 0) (results_cell_row (p := 4) (ty := 41) rfl _ _ (w.heap.size + 1) 41 _ (0, 0) _ rfl (rp_set HR6.out _ _ _ _ _ _) Try.underlying41 rfl (by kernel_rfl)) rfl HFIN.out
      | false =>
        go_wp2_with fail
        refine HCALL.out.mono ?_
        rintro e w6 ⟨he, hb6⟩
        rw [hc] at he
        simp only [if_false, Bool.false_eq_true] at he
        subst he
        have HL6 := xhide (HL.out.below hb6)
        clear HCALL hb6
        go_wp2
        go_roundw
        case rel => exact ⟨2, by omega, by go_num, xhide (by simp [pv0, hc]), HL6⟩
        case measure => simp [intOf]
    · have hk0 : k = 0 := by omega
      subst hk0
      have hL := HL.out
      have hopen : S.ws ≠ none := by have := HF.out.1 (by omega); intro e; rw [e] at this; cases this
      have pv0 := HF.out.1 (by omega)
      have pv1 := HF.out.2 (by omega)
      have hfst : fst0 (wrg S (⟨3, mode, key, high, val, draw, nn⟩ : Cl) 3) = 0 := by unfold wrg fst0; simp [pv0, pv1, fst0]
      have hstp : stp S (⟨3, mode, key, high, val, draw, nn⟩ : Cl) = p := by rw [HST.out, hfst, if_pos rfl]
      have HCALL : Hid (Calls Try.prog 52 #[ptr X, Cl.v ⟨3, mode, key, high, val, draw, nn⟩] wr fun e w' => Dn wr w' X b c p e) := xhide (by rw [hp]; exact scan_any hL.pm hopen hLen)
      have FIN : Hid (∀ w6 e, Dn wr w6 X b c p e → ∃ v sv, e = .returned v ∧ v = .agg #[.int .i64 p.2.code, .string p.2.val, .bool p.2.found, sv, .int .i64 p.2.time, .int .i64 0] ∧ w6.heap[w.heap.size + 1]? = some rpB ∧ (∃ ao ln cp, sv = .slice ao ln cp) ∧
          Dn w (rpSet w6 (w.heap.size + 1) (.int .i64 p.2.code) (.string p.2.val) (.bool p.2.found) sv (.int .i64 p.2.time) (.int .i64 0)) X b c (stp S (⟨3, mode, key, high, val, draw, nn⟩ : Cl)) (.returned v)) := xhide (fun w6 e hd => by
        have hd' := hd
        obtain ⟨v, c', rfl, _⟩ := hd'
        obtain ⟨sv, e1, e2, e3, e4⟩ := do_tail H.out HL.out.low (by omega) HL.out.rp hd
        exact ⟨v, sv, rfl, e1, e2, e3, by rw [hstp]; exact e4⟩)
      clear hL hA hfst hp
      go_wp2_with fail
      refine HCALL.out.mono ?_
      rintro e w6 hd
      obtain ⟨v, sv, rfl, rfl, hr6, ⟨ao, ln, cp, rfl⟩, hfin⟩ := FIN.out w6 e hd
      have HFIN := xhide hfin
      have HR6 := xhide hr6
      obtain ⟨⟨q0, q1, q2, q3, q4, q5⟩, g0, g1, g2, g3, g4, g5⟩ := rp_cells hr6
      have hl2 : w.heap.size + 1 < w6.heap.size := (Array.getElem?_eq_some_iff.1 hr6).1
      clear hfin hr6 FIN HCALL hd
      go_wp2
      exact bodyPost_ret (results_cell_row (p := 4) (ty := 41) rfl _ _ (w.heap.size + 1) 41 _ (0, 0) _ rfl (rp_set HR6.out _ _ _ _ _ _) Try.underlying41 rfl (by kernel_rfl)) rfl HFIN.out
end
end Go.Proofs.Ytheidhkmmihjlaa

/-
  XmD: Do, kind by kind.
-/
set_option linter.unusedVariables false
set_option linter.unusedSimpArgs false
namespace Go.Proofs.Ytheidhkmmihjlaa
open Go.RowKit Go.Shelf Go.Maps
attribute [local go_sem] Oper.semAt_some
section
set_option maxHeartbeats 1000000
set_option maxRecDepth 100000
variable {w : World} {X b : Nat} {c : Option Nat} {S : Ms} {C : Cl}
theorem do_4 (h : Pm w X b c S) (hLen : S.L.length + 64 ≤ big) (mode draw nn : Int) (key high val : ByteArray) : Calls Try.prog 13 #[ptr X, Cl.v ⟨4, mode, key, high, val, draw, nn⟩] w fun e w' => Dn w w' X b c (stp S (⟨4, mode, key, high, val, draw, nn⟩ : Cl)) e := by
  obtain ⟨W2, hW2, hb2, hz, hr, hc⟩ := laid2 w (⟨4, mode, key, high, val, draw, nn⟩ : Cl)
  have hLen2 : S.L.length + 64 ≤ 1000000000000000 := by unfold big at hLen; omega
  have HN := xhide (none_any (h.below hb2))
  have HD := xhide (fun w => deeds_any w)
  have k0 : W2.cell? ⟨w.heap.size, 0, none⟩ = some (.int .i64 4) := by rw [Go.Joins.cell_of_block hc]; rfl
  have hst : stp S (⟨4, mode, key, high, val, draw, nn⟩ : Cl) = if fst0 (wrg S (⟨4, mode, key, high, val, draw, nn⟩ : Cl) 4) = 0 then ans S (⟨4, mode, key, high, val, draw, nn⟩ : Cl) 4 else (S, { code := fst0 (wrg S (⟨4, mode, key, high, val, draw, nn⟩ : Cl) 4) }) := by unfold stp; rfl
  have hlw : w.heap.size < W2.heap.size := by omega
  have hix : ∀ u : World, (Instr.index 77 (.agg tbl) (.int .i64 4)).run Try.prog u = .ok (.agg #[.func (.func 48) #[] #[], .func (.func 49) #[] #[], .func (.func 53) #[] #[], .func (.func 54) #[] #[], .func (.func 55) #[] #[]]) u := fun u => by kernel_rfl
  have H := xhide h
  have HB2 := xhide hb2
  have HR := xhide hr
  have HC := xhide hc
  have HZ := xhide hz
  have HST := xhide hst
  clear h hb2 hr hc hz hst
  go_enter Try.func13, Try.ntmps13
  go_wp2_with fail
  rw [← hW2]
  clear hW2
  refine HN.out.mono ?_
  rintro e w1 ⟨rfl, rfl⟩
  go_wp2_with fail
  obtain ⟨K1, HQ, HQ1⟩ : ∃ K1 : Act → World → Prop, Hid (∀ D w', Lp w w' X b c S (⟨4, mode, key, high, val, draw, nn⟩ : Cl) D (deedObj (.func (.func 48) #[] #[]) (.func (.func 49) #[] #[]) (.func (.func 53) #[] #[]) (.func (.func 54) #[] #[]) (.func (.func 55) #[] #[])) → K1 { tmps := #[ptr X, Cl.v ⟨4, mode, key, high, val, draw, nn⟩, undef, ptr w.heap.size, ptr (w.heap.size + 1), ptr D, undef, undef, undef, ptr X, .bool false, undef, ptr w.heap.size, .int .i64 4, .bool false, .bool false, ptr w.heap.size, .int .i64 4, .bool false, .bool false, undef, .agg tbl, ptr w.heap.size, .int .i64 4, .agg #[.func (.func 48) #[] #[], .func (.func 49) #[] #[], .func (.func 53) #[] #[], .func (.func 54) #[] #[], .func (.func 55) #[] #[]], undef, undef, undef, undef, undef, undef, undef, undef, undef, undef, undef, undef, undef, undef, undef, undef, undef, undef, undef, undef, undef], defers := [] } w') ∧ Hid (∀ a w', K1 a w' → ∃ D, a = { tmps := #[ptr X, Cl.v ⟨4, mode, key, high, val, draw, nn⟩, undef, ptr w.heap.size, ptr (w.heap.size + 1), ptr D, undef, undef, undef, ptr X, .bool false, undef, ptr w.heap.size, .int .i64 4, .bool false, .bool false, ptr w.heap.size, .int .i64 4, .bool false, .bool false, undef, .agg tbl, ptr w.heap.size, .int .i64 4, .agg #[.func (.func 48) #[] #[], .func (.func 49) #[] #[], .func (.func 53) #[] #[], .func (.func 54) #[] #[], .func (.func 55) #[] #[]], undef, undef, undef, undef, undef, undef, undef, undef, undef, undef, undef, undef, undef, undef, undef, undef, undef, undef, undef, undef, undef], defers := [] } ∧ Hid (Lp w w' X b c S (⟨4, mode, key, high, val, draw, nn⟩ : Cl) D (deedObj (.func (.func 48) #[] #[]) (.func (.func 49) #[] #[]) (.func (.func 53) #[] #[]) (.func (.func 54) #[] #[]) (.func (.func 55) #[] #[])))) :=
    ⟨fun a' w' => ∃ D, a' = { tmps := #[ptr X, Cl.v ⟨4, mode, key, high, val, draw, nn⟩, undef, ptr w.heap.size, ptr (w.heap.size + 1), ptr D, undef, undef, undef, ptr X, .bool false, undef, ptr w.heap.size, .int .i64 4, .bool false, .bool false, ptr w.heap.size, .int .i64 4, .bool false, .bool false, undef, .agg tbl, ptr w.heap.size, .int .i64 4, .agg #[.func (.func 48) #[] #[], .func (.func 49) #[] #[], .func (.func 53) #[] #[], .func (.func 54) #[] #[], .func (.func 55) #[] #[]], undef, undef, undef, undef, undef, undef, undef, undef, undef, undef, undef, undef, undef, undef, undef, undef, undef, undef, undef, undef, undef], defers := [] } ∧ Hid (Lp w w' X b c S (⟨4, mode, key, high, val, draw, nn⟩ : Cl) D (deedObj (.func (.func 48) #[] #[]) (.func (.func 49) #[] #[]) (.func (.func 53) #[] #[]) (.func (.func 54) #[] #[]) (.func (.func 55) #[] #[]))), xhide (fun D w' h => ⟨D, rfl, xhide h⟩), xhide (fun _ _ h => h)⟩
  refine wp_then K1 ?_ ?_
  · go_region_with (go_at_call 34; refine (HD.out _).mono ?_; rintro e w3 ⟨rfl, hb3⟩; obtain ⟨hlow3, he3, hs3⟩ := low_of hb3 HB2.out HZ.out (by first | exact Below.refl _ _ | exact (Below.refl _ _).drew | exact (ML.below1 _ _).drew | exact ((Below.refl _ _).drew.alloc (Nat.le_refl _) _)); have hc3 := (he3 _ hlw).trans HC.out; have k3 : w3.cell? ⟨w.heap.size, 0, none⟩ = some (.int .i64 4) := (by rw [Go.Joins.cell_of_block hc3]; rfl); have hlw3 : w.heap.size < w3.heap.size := (Array.getElem?_eq_some_iff.1 hc3).1; have hr3 := (he3 (w.heap.size + 1) (by have := HZ.out; omega)).trans HR.out; have hs4 : w.heap.size + 2 ≤ w3.heap.size := (by have := HZ.out; omega); first | (have hd3 : w3.heap[w1.heap.size]? = some (deedObj .nilFunc .nilFunc .nilFunc .nilFunc .nilFunc) := (hb3.block w1.heap.size (by simp)).trans (ML.heap_alloc_at (by simp) _); obtain ⟨⟨p0, p1, p2, p3, p4⟩, r0, r1, r2, r3, r4⟩ := deed_cells hd3; have hlD : w1.heap.size < w3.heap.size := (Array.getElem?_eq_some_iff.1 hd3).1) | skip)
    all_goals
      first
        | exact HQ.out _ _ (lp_old H.out hlow3 hc3 hr3 hd3 (by have := HZ.out; omega) _ _ _ _ _)
        | exact HQ.out _ _ (lp_new H.out hlow3 hc3 hr3 hs4 _)
        | exact HQ.out _ _ (lp_old H.out hlow3 hc3 hr3 hd3 (by have := HZ.out; omega) _ _ _ _ _).drew
        | exact HQ.out _ _ (lp_new H.out hlow3 hc3 hr3 hs4 _).drew
  intro a' w5 hq
  obtain ⟨D, rfl, HL⟩ := HQ1.out a' w5 hq
  clear hq HQ HQ1
  dsimp only []
  have hA := HL.out
  obtain ⟨y0, y1, y2, y3, y4⟩ : w5.cell? ⟨D, 0, none⟩ = some (.func (.func 48) #[] #[]) ∧ w5.cell? ⟨D, 1, none⟩ = some (.func (.func 49) #[] #[]) ∧ w5.cell? ⟨D, 2, none⟩ = some (.func (.func 53) #[] #[]) ∧ w5.cell? ⟨D, 3, none⟩ = some (.func (.func 54) #[] #[]) ∧ w5.cell? ⟨D, 4, none⟩ = some (.func (.func 55) #[] #[]) := by
    refine ⟨?_, ?_, ?_, ?_, ?_⟩ <;> (rw [Go.Joins.cell_of_block hA.dd]; rfl)
  have ix0 : ∀ u : World, (Instr.index 73 (.agg #[.func (.func 48) #[] #[], .func (.func 49) #[] #[], .func (.func 53) #[] #[], .func (.func 54) #[] #[]]) (.int .i64 0)).run Try.prog u = .ok (.func (.func 48) #[] #[]) u := fun u => by kernel_rfl
  have ix1 : ∀ u : World, (Instr.index 73 (.agg #[.func (.func 48) #[] #[], .func (.func 49) #[] #[], .func (.func 53) #[] #[], .func (.func 54) #[] #[]]) (.int .i64 1)).run Try.prog u = .ok (.func (.func 49) #[] #[]) u := fun u => by kernel_rfl
  have ix2 : ∀ u : World, (Instr.index 73 (.agg #[.func (.func 48) #[] #[], .func (.func 49) #[] #[], .func (.func 53) #[] #[], .func (.func 54) #[] #[]]) (.int .i64 2)).run Try.prog u = .ok (.func (.func 53) #[] #[]) u := fun u => by kernel_rfl
  have ix3 : ∀ u : World, (Instr.index 73 (.agg #[.func (.func 48) #[] #[], .func (.func 49) #[] #[], .func (.func 53) #[] #[], .func (.func 54) #[] #[]]) (.int .i64 3)).run Try.prog u = .ok (.func (.func 54) #[] #[]) u := fun u => by kernel_rfl
  have nq0 : ∀ u : World, (binOp .eql 55 (.func (.func 48) #[] #[]) .nilFunc).run Try.prog u = .ok (.bool false) u := fun u => by kernel_rfl
  have nq1 : ∀ u : World, (binOp .eql 55 (.func (.func 54) #[] #[]) .nilFunc).run Try.prog u = .ok (.bool false) u := fun u => by kernel_rfl
  have nq2 : ∀ u : World, (binOp .eql 55 (.func (.func 49) #[] #[]) .nilFunc).run Try.prog u = .ok (.bool false) u := fun u => by kernel_rfl
  have nq3 : ∀ u : World, (binOp .eql 55 (.func (.func 53) #[] #[]) .nilFunc).run Try.prog u = .ok (.bool false) u := fun u => by kernel_rfl
  have nqn : ∀ u : World, (binOp .eql 55 .nilFunc .nilFunc).run Try.prog u = .ok (.bool true) u := fun u => by kernel_rfl
  obtain ⟨p, hp⟩ : ∃ p, p = ans S (⟨4, mode, key, high, val, draw, nn⟩ : Cl) 4 := ⟨_, rfl⟩
  rw [← hp] at HST
  clear hA
  go_wp2_with fail
  go_loopw [27] (fun i wr => ∃ k : Nat, k ≤ 4 ∧ i = .int .i64 (k : Nat) ∧ Hid ((0 < k → (S.ws.isNone) = false) ∧ (1 < k → (!isK (⟨4, mode, key, high, val, draw, nn⟩ : Cl).key) = false) ∧ (2 < k → (!isV (⟨4, mode, key, high, val, draw, nn⟩ : Cl).val) = false) ∧ (3 < k → ((look S (⟨4, mode, key, high, val, draw, nn⟩ : Cl).key).isSome) = false)) ∧ Hid (Lp w wr X b c S (⟨4, mode, key, high, val, draw, nn⟩ : Cl) D (deedObj (.func (.func 48) #[] #[]) (.func (.func 49) #[] #[]) (.func (.func 53) #[] #[]) (.func (.func 54) #[] #[]) (.func (.func 55) #[] #[])))) (fun i _ => 5 - (intOf i).toNat)
  case atStart => exact ⟨0, by omega, rfl, xhide (by simp), HL⟩
  case round =>
    obtain ⟨k, hk, rfl, HF, HL⟩ := hrel
    have hA := HL.out
    clear y0 y1 y2 y3 y4
    have y4 : wr.cell? ⟨D, 4, none⟩ = some (.func (.func 55) #[] #[]) := by rw [Go.Joins.cell_of_block hA.dd]; rfl
    have zc : ∀ i v, [.int .i64 4, .int .i64 mode, .string key, .string high, .string val, .int .i64 draw, .int .i64 nn][i]? = some v → wr.cell? ⟨w.heap.size, i, none⟩ = some v := by
      intro i v hv
      rw [Go.Joins.cell_of_block hA.cb]
      simpa using hv
    have z0 := zc 0 _ rfl
    have z1 := zc 1 _ rfl
    have z2 := zc 2 _ rfl
    have z3 := zc 3 _ rfl
    have z4 := zc 4 _ rfl
    have z5 := zc 5 _ rfl
    have z6 := zc 6 _ rfl
    obtain ⟨⟨q0, q1, q2, q3, q4, q5⟩, g0, g1, g2, g3, g4, g5⟩ := rp_cells hA.rp
    have hl1 : w.heap.size < wr.heap.size := (Array.getElem?_eq_some_iff.1 hA.cb).1
    have hl2 : w.heap.size + 1 < wr.heap.size := (Array.getElem?_eq_some_iff.1 hA.rp).1
    have hl3 : D < wr.heap.size := (Array.getElem?_eq_some_iff.1 hA.dd).1
    clear zc
    rcases k with _ | _ | _ | _ | k
    · have hL := HL.out
      have HCALL := xhide (isNotOpen_any hL.pm (⟨4, mode, key, high, val, draw, nn⟩ : Cl))
      clear hL hA
      cases hc : (S.ws.isNone) with
      | true =>
        have hfst : fst0 (wrg S (⟨4, mode, key, high, val, draw, nn⟩ : Cl) 4) = 152 := by unfold wrg fst0; simp [hc, fst0]
        have FIN : Hid (∀ wz, Below wr.heap.size wr wz → Dn w (rpSet wz (w.heap.size + 1) (.int .i64 152) (.string .empty) (.bool false) (.slice none 0 0) (.int .i64 0) (.int .i64 0)) X b c (stp S (⟨4, mode, key, high, val, draw, nn⟩ : Cl)) (.returned (rp0 152 .empty false 0)) ∧ wz.heap[w.heap.size + 1]? = some rpB) := xhide (fun wz hz => by
          rw [HST.out, hfst, if_neg (by decide)]
          exact ⟨do_code H.out (HL.out.below hz).low, (HL.out.below hz).rp⟩)
        go_wp2_with fail
        refine HCALL.out.mono ?_
        rintro e w6 ⟨he, hb6⟩
        rw [hc] at he
        simp only [if_true] at he
        subst he
        obtain ⟨hfin, hr6⟩ := FIN.out w6 hb6
        have HFIN := xhide hfin
        have HR6 := xhide hr6
        obtain ⟨⟨q0, q1, q2, q3, q4, q5⟩, g0, g1, g2, g3, g4, g5⟩ := rp_cells hr6
        have hl2 : w.heap.size + 1 < w6.heap.size := (Array.getElem?_eq_some_iff.1 hr6).1
        clear hfin hr6 FIN HCALL hb6
        go_wp2
        exact bodyPost_ret (v := rp0 152 .empty false 0) (results_cell_row (p := 4) (ty := 41) rfl _ _ (w.heap.size + 1) 41 _ (0, 0) _ rfl (rp_set HR6.out _ _ _ _ _ _) Try.underlying41 rfl (by kernel_rfl)) rfl HFIN.out
      | false =>
        go_wp2_with fail
        refine HCALL.out.mono ?_
        rintro e w6 ⟨he, hb6⟩
        rw [hc] at he
        simp only [if_false, Bool.false_eq_true] at he
        subst he
        have HL6 := xhide (HL.out.below hb6)
        clear HCALL hb6
        go_wp2
        go_roundw
        case rel => exact ⟨1, by omega, by go_num, xhide (by simp [hc]), HL6⟩
        case measure => simp [intOf]
    · have hL := HL.out
      have pv0 := HF.out.1 (by omega)
      have HCALL := xhide (noKey_any X (⟨4, mode, key, high, val, draw, nn⟩ : Cl) wr)
      clear hL hA
      cases hc : (!isK (⟨4, mode, key, high, val, draw, nn⟩ : Cl).key) with
      | true =>
        have hfst : fst0 (wrg S (⟨4, mode, key, high, val, draw, nn⟩ : Cl) 4) = 154 := by unfold wrg fst0; simp [pv0, hc, fst0]
        have FIN : Hid (∀ wz, Below wr.heap.size wr wz → Dn w (rpSet wz (w.heap.size + 1) (.int .i64 154) (.string .empty) (.bool false) (.slice none 0 0) (.int .i64 0) (.int .i64 0)) X b c (stp S (⟨4, mode, key, high, val, draw, nn⟩ : Cl)) (.returned (rp0 154 .empty false 0)) ∧ wz.heap[w.heap.size + 1]? = some rpB) := xhide (fun wz hz => by
          rw [HST.out, hfst, if_neg (by decide)]
          exact ⟨do_code H.out (HL.out.below hz).low, (HL.out.below hz).rp⟩)
        go_wp2_with fail
        refine HCALL.out.mono ?_
        rintro e w6 ⟨he, hb6⟩
        rw [hc] at he
        simp only [if_true] at he
        subst he
        obtain ⟨hfin, hr6⟩ := FIN.out w6 hb6
        have HFIN := xhide hfin
        have HR6 := xhide hr6
        obtain ⟨⟨q0, q1, q2, q3, q4, q5⟩, g0, g1, g2, g3, g4, g5⟩ := rp_cells hr6
        have hl2 : w.heap.size + 1 < w6.heap.size := (Array.getElem?_eq_some_iff.1 hr6).1
        clear hfin hr6 FIN HCALL hb6
        go_wp2
        exact bodyPost_ret (v := rp0 154 .empty false 0) (results_cell_row (p := 4) (ty := 41) rfl _ _ (w.heap.size + 1) 41 _ (0, 0) _ rfl (rp_set HR6.out _ _ _ _ _ _) Try.underlying41 rfl (by kernel_rfl)) rfl HFIN.out
      | false =>
        go_wp2_with fail
        refine HCALL.out.mono ?_
        rintro e w6 ⟨he, hb6⟩
        rw [hc] at he
        simp only [if_false, Bool.false_eq_true] at he
        subst he
        have HL6 := xhide (HL.out.below hb6)
        clear HCALL hb6
        go_wp2
        go_roundw
        case rel => exact ⟨2, by omega, by go_num, xhide (by simp [pv0, hc]), HL6⟩
        case measure => simp [intOf]
    · have hL := HL.out
      have pv0 := HF.out.1 (by omega)
      have pv1 := HF.out.2.1 (by omega)
      have HCALL := xhide (noValue_any X (⟨4, mode, key, high, val, draw, nn⟩ : Cl) wr)
      clear hL hA
      cases hc : (!isV (⟨4, mode, key, high, val, draw, nn⟩ : Cl).val) with
      | true =>
        have hfst : fst0 (wrg S (⟨4, mode, key, high, val, draw, nn⟩ : Cl) 4) = 155 := by unfold wrg fst0; simp [pv0, pv1, hc, fst0]
        have FIN : Hid (∀ wz, Below wr.heap.size wr wz → Dn w (rpSet wz (w.heap.size + 1) (.int .i64 155) (.string .empty) (.bool false) (.slice none 0 0) (.int .i64 0) (.int .i64 0)) X b c (stp S (⟨4, mode, key, high, val, draw, nn⟩ : Cl)) (.returned (rp0 155 .empty false 0)) ∧ wz.heap[w.heap.size + 1]? = some rpB) := xhide (fun wz hz => by
          rw [HST.out, hfst, if_neg (by decide)]
          exact ⟨do_code H.out (HL.out.below hz).low, (HL.out.below hz).rp⟩)
        go_wp2_with fail
        refine HCALL.out.mono ?_
        rintro e w6 ⟨he, hb6⟩
        rw [hc] at he
        simp only [if_true] at he
        subst he
        obtain ⟨hfin, hr6⟩ := FIN.out w6 hb6
        have HFIN := xhide hfin
        have HR6 := xhide hr6
        obtain ⟨⟨q0, q1, q2, q3, q4, q5⟩, g0, g1, g2, g3, g4, g5⟩ := rp_cells hr6
        have hl2 : w.heap.size + 1 < w6.heap.size := (Array.getElem?_eq_some_iff.1 hr6).1
        clear hfin hr6 FIN HCALL hb6
        go_wp2
        exact bodyPost_ret (v := rp0 155 .empty false 0) (results_cell_row (p := 4) (ty := 41) rfl _ _ (w.heap.size + 1) 41 _ (0, 0) _ rfl (rp_set HR6.out _ _ _ _ _ _) Try.underlying41 rfl (by kernel_rfl)) rfl HFIN.out
      | false =>
        go_wp2_with fail
        refine HCALL.out.mono ?_
        rintro e w6 ⟨he, hb6⟩
        rw [hc] at he
        simp only [if_false, Bool.false_eq_true] at he
        subst he
        have HL6 := xhide (HL.out.below hb6)
        clear HCALL hb6
        go_wp2
        go_roundw
        case rel => exact ⟨3, by omega, by go_num, xhide (by simp [pv0, pv1, hc]), HL6⟩
        case measure => simp [intOf]
    · have hL := HL.out
      have hopen : S.ws ≠ none := by
        have := HF.out.1 (by omega)
        intro e
        rw [e] at this
        cases this
      have hkey : ((⟨4, mode, key, high, val, draw, nn⟩ : Cl)).key.size ≤ maxLen := by
        have h1 := HF.out.2.1 (by omega)
        have h2 : isK ((⟨4, mode, key, high, val, draw, nn⟩ : Cl)).key = true := by simpa using h1
        have h3 := (isK_iff.1 h2).2
        unfold maxLen
        omega
      have pv0 := HF.out.1 (by omega)
      have pv1 := HF.out.2.1 (by omega)
      have pv2 := HF.out.2.2.1 (by omega)
      have HCALL := xhide (isThere_any hL.pm hopen hkey)
      clear hL hA
      cases hc : ((look S (⟨4, mode, key, high, val, draw, nn⟩ : Cl).key).isSome) with
      | true =>
        have hfst : fst0 (wrg S (⟨4, mode, key, high, val, draw, nn⟩ : Cl) 4) = 156 := by unfold wrg fst0; simp [pv0, pv1, pv2, hc, fst0]
        have FIN : Hid (∀ wz, Below wr.heap.size wr wz → Dn w (rpSet wz (w.heap.size + 1) (.int .i64 156) (.string .empty) (.bool false) (.slice none 0 0) (.int .i64 0) (.int .i64 0)) X b c (stp S (⟨4, mode, key, high, val, draw, nn⟩ : Cl)) (.returned (rp0 156 .empty false 0)) ∧ wz.heap[w.heap.size + 1]? = some rpB) := xhide (fun wz hz => by
          rw [HST.out, hfst, if_neg (by decide)]
          exact ⟨do_code H.out (HL.out.below hz).low, (HL.out.below hz).rp⟩)
        go_wp2_with fail
        refine HCALL.out.mono ?_
        rintro e w6 ⟨he, hb6⟩
        rw [hc] at he
        simp only [if_true] at he
        subst he
        obtain ⟨hfin, hr6⟩ := FIN.out w6 hb6
        have HFIN := xhide hfin
        have HR6 := xhide hr6
        obtain ⟨⟨q0, q1, q2, q3, q4, q5⟩, g0, g1, g2, g3, g4, g5⟩ := rp_cells hr6
        have hl2 : w.heap.size + 1 < w6.heap.size := (Array.getElem?_eq_some_iff.1 hr6).1
        clear hfin hr6 FIN HCALL hb6
        go_wp2
        exact bodyPost_ret (v := rp0 156 .empty false 0) (results_cell_row (p := 4) (ty := 41) rfl _ _ (w.heap.size + 1) 41 _ (0, 0) _ rfl (rp_set HR6.out _ _ _ _ _ _) Try.underlying41 rfl (by kernel_rfl)) rfl HFIN.out
      | false =>
        go_wp2_with fail
        refine HCALL.out.mono ?_
        rintro e w6 ⟨he, hb6⟩
        rw [hc] at he
        simp only [if_false, Bool.false_eq_true] at he
        subst he
        have HL6 := xhide (HL.out.below hb6)
        clear HCALL hb6
        go_wp2
        go_roundw
        case rel => exact ⟨4, by omega, by go_num, xhide (by simp [pv0, pv1, pv2, hc]), HL6⟩
        case measure => simp [intOf]
    · have hk0 : k = 0 := by omega
      subst hk0
      have hL := HL.out
      have hopen : S.ws ≠ none := by
        have := HF.out.1 (by omega)
        intro e
        rw [e] at this
        cases this
      have hiK : isK ((⟨4, mode, key, high, val, draw, nn⟩ : Cl)).key = true := by
        have h1 := HF.out.2.1 (by omega)
        simpa using h1
      have hkey : ((⟨4, mode, key, high, val, draw, nn⟩ : Cl)).key.size ≤ maxLen := by
        have h3 := (isK_iff.1 hiK).2
        unfold maxLen
        omega
      have hiV : isV ((⟨4, mode, key, high, val, draw, nn⟩ : Cl)).val = true := by
        have h1 := HF.out.2.2.1 (by omega)
        simpa using h1
      have hput : okW ⟨((⟨4, mode, key, high, val, draw, nn⟩ : Cl)).key, ((⟨4, mode, key, high, val, draw, nn⟩ : Cl)).val, false⟩ = true := okW_iff.2 ⟨isK_iff.1 hiK, isV_iff.1 hiV, fun q => nomatch q⟩
      have pv0 := HF.out.1 (by omega)
      have pv1 := HF.out.2.1 (by omega)
      have pv2 := HF.out.2.2.1 (by omega)
      have pv3 := HF.out.2.2.2 (by omega)
      have hfst : fst0 (wrg S (⟨4, mode, key, high, val, draw, nn⟩ : Cl) 4) = 0 := by unfold wrg fst0; simp [pv0, pv1, pv2, pv3, fst0]
      have hstp : stp S (⟨4, mode, key, high, val, draw, nn⟩ : Cl) = p := by rw [HST.out, hfst, if_pos rfl]
      have HCALL : Hid (Calls Try.prog 55 #[ptr X, Cl.v ⟨4, mode, key, high, val, draw, nn⟩] wr fun e w' => Dn wr w' X b c p e) := xhide (by rw [hp]; exact put_any hL.pm hopen hput)
      have FIN : Hid (∀ w6 e, Dn wr w6 X b c p e → ∃ v sv, e = .returned v ∧ v = .agg #[.int .i64 p.2.code, .string p.2.val, .bool p.2.found, sv, .int .i64 p.2.time, .int .i64 0] ∧ w6.heap[w.heap.size + 1]? = some rpB ∧ (∃ ao ln cp, sv = .slice ao ln cp) ∧
          Dn w (rpSet w6 (w.heap.size + 1) (.int .i64 p.2.code) (.string p.2.val) (.bool p.2.found) sv (.int .i64 p.2.time) (.int .i64 0)) X b c (stp S (⟨4, mode, key, high, val, draw, nn⟩ : Cl)) (.returned v)) := xhide (fun w6 e hd => by
        have hd' := hd
        obtain ⟨v, c', rfl, _⟩ := hd'
        obtain ⟨sv, e1, e2, e3, e4⟩ := do_tail H.out HL.out.low (by omega) HL.out.rp hd
        exact ⟨v, sv, rfl, e1, e2, e3, by rw [hstp]; exact e4⟩)
      clear hL hA hfst hp
      go_wp2_with fail
      refine HCALL.out.mono ?_
      rintro e w6 hd
      obtain ⟨v, sv, rfl, rfl, hr6, ⟨ao, ln, cp, rfl⟩, hfin⟩ := FIN.out w6 e hd
      have HFIN := xhide hfin
      have HR6 := xhide hr6
      obtain ⟨⟨q0, q1, q2, q3, q4, q5⟩, g0, g1, g2, g3, g4, g5⟩ := rp_cells hr6
      have hl2 : w.heap.size + 1 < w6.heap.size := (Array.getElem?_eq_some_iff.1 hr6).1
      clear hfin hr6 FIN HCALL hd
      go_wp2
      exact bodyPost_ret (results_cell_row (p := 4) (ty := 41) rfl _ _ (w.heap.size + 1) 41 _ (0, 0) _ rfl (rp_set HR6.out _ _ _ _ _ _) Try.underlying41 rfl (by kernel_rfl)) rfl HFIN.out
end
end Go.Proofs.Ytheidhkmmihjlaa
