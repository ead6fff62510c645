/-
  Xm3: What calls do, one function each: begin, get, abort, rest; a write.
-/
import Derived.Test.YtheidhkmmihjlaaDo13
import Derived.Test.YtheidhkmmihjlaaDo15
set_option linter.unusedVariables false
set_option linter.unusedSimpArgs false
namespace Go.Proofs.Ytheidhkmmihjlaa
open Go.RowKit Go.Shelf Go.Maps
open ML (Ro RS Srt nless fstOf Fst strLit strLit_inj setL setL_same setL_other delL delL_same delL_other od nl_irr nl_tr nl_tot Mg Rdg RVs strKeyed str_key turned_below zeroRo)
attribute [local go_sem] Oper.semAt_some

/-- A reply in memory: its rows in new memory. -/
def RpV (w : World) (B : Nat) (v : Value) (r : Rp) : Prop := ∃ sv, v = .agg #[.int .i64 r.code, .string r.val, .bool r.found, sv, .int .i64 r.time, .int .i64 0] ∧ ((sv = .slice none 0 0 ∧ r.rows = []) ∨ (r.rows ≠ [] ∧ ML.Wr w B sv r.rows))
/-- What a call leaves. -/
def Dn (w w' : World) (X b : Nat) (c : Option Nat) (p : Ms × Rp) (e : Ending) : Prop :=
  ∃ v c', e = .returned v ∧ RpV w' w.heap.size v p.2 ∧ Pm w' X b c' p.1 ∧ Chg (Ex X b c) w w' ∧ (c' = c ∨ c' = none ∨ ∃ j, c' = some j ∧ w.heap.size ≤ j ∧ p.2.rows = [])
abbrev rp0 (code : Int) (val : ByteArray) (found : Bool) (time : Int) : Value := .agg #[.int .i64 code, .string val, .bool found, .slice none 0 0, .int .i64 time, .int .i64 0]
theorem rpv0 (w : World) (B : Nat) (code : Int) (val : ByteArray) (found : Bool) (time : Int) : RpV w B (rp0 code val found time) { code := code, val := val, found := found, time := time } := ⟨_, rfl, .inl ⟨rfl, rfl⟩⟩
theorem Pm.free {w : World} {X b : Nat} {c : Option Nat} {S : Ms} (h : Pm w X b c S) (i : Nat) : w.frozen? ⟨X, i, none⟩ = false := Go.Joins.unfrozen_of_block h.blk i
theorem set_else {w : World} {X i k : Nat} {u : Value} (h : k ≠ X) : (w.setCell ⟨X, i, none⟩ u).heap[k]? = w.heap[k]? := Below.heap_setCell _ _ _ _ (fun e => h e)
theorem set_chg {w : World} {X b i : Nat} {c : Option Nat} {u : Value} : Chg (Ex X b c) w (w.setCell ⟨X, i, none⟩ u) := ⟨⟨rfl, rfl, rfl, by simp [World.setCell], fun k hk => absurd hk (Nat.not_lt_zero _)⟩, fun j hj n => set_else fun e => n (.inl e)⟩
/-- The field of what the transaction wrote, emptied. -/
theorem Pm.shut {w : World} {X b : Nat} {c : Option Nat} {S : Ms} (h : Pm w X b c S) : Pm (w.setCell ⟨X, 2, none⟩ (.map none)) X b none ⟨S.L, S.t, none⟩ := by
  obtain ⟨f, hM, hF⟩ := h.rm
  exact ⟨(Go.Joins.block_setCell h.blk _).trans rfl, h.ok.shut, ⟨f, hM.same (set_else h.nb.symm), hF⟩, rfl, h.nb, nofun, nofun⟩
abbrev rpB : Obj := .cells #[.int .i64 0, .string ⟨#[]⟩, .bool false, .slice none 0 0, .int .i64 0, .int .i64 0] 41 (0, 0)
abbrev Cl.obj (C : Cl) : Obj := .cells #[.int .i64 C.kind, .int .i64 C.mode, .string C.key, .string C.high, .string C.val, .int .i64 C.draw, .int .i64 C.n] 33 (0, 0)
/-- A call and a reply have been laid. -/
theorem laid2 (w : World) (C : Cl) : ∃ W2, W2 = (w.alloc C.obj).alloc rpB ∧ Below w.heap.size w W2 ∧ W2.heap.size = w.heap.size + 2 ∧ W2.heap[w.heap.size + 1]? = some rpB ∧ W2.heap[w.heap.size]? = some C.obj :=
  ⟨_, rfl, ML.below2 _ _ _, by simp, ML.heap_alloc_at (by simp) _, (Below.heap_alloc _ _ _ (by simp)).trans (ML.heap_alloc_at rfl _)⟩
abbrev rpA (code : Int) (val : ByteArray) (found : Bool) (sv : Value) (time : Int) : Array Value := #[.int .i64 code, .string val, .bool found, sv, .int .i64 time, .int .i64 0]
theorem row_below {w w' : World} {B g : Nat} (h : Below B w w') (hg : B ≤ g) (cs : Array Value) : Below B w (w'.setRow g cs) := Go.below_setRow h hg cs
abbrev Wr.obj (x : Wr) : Obj := .cells #[.string x.key, .string x.val, .bool x.gone] 61 (0, 0)
theorem laid2w (w : World) (x : Wr) : ∃ W2, W2 = (w.alloc x.obj).alloc rpB ∧ Below w.heap.size w W2 ∧ W2.heap.size = w.heap.size + 2 ∧ W2.heap[w.heap.size + 1]? = some rpB ∧ W2.heap[w.heap.size]? = some x.obj :=
  ⟨_, rfl, ML.below2 _ _ _, by simp, ML.heap_alloc_at (by simp) _, (Below.heap_alloc _ _ _ (by simp)).trans (ML.heap_alloc_at rfl _)⟩
theorem rp_cells {w : World} {g : Nat} (h : w.heap[g]? = some rpB) : (w.cell? ⟨g, 0, none⟩ = some (.int .i64 0) ∧ w.cell? ⟨g, 1, none⟩ = some (.string ⟨#[]⟩) ∧ w.cell? ⟨g, 2, none⟩ = some (.bool false) ∧ w.cell? ⟨g, 3, none⟩ = some (.slice none 0 0) ∧ w.cell? ⟨g, 4, none⟩ = some (.int .i64 0) ∧ w.cell? ⟨g, 5, none⟩ = some (.int .i64 0)) ∧
    (w.frozen? ⟨g, 0, none⟩ = false ∧ w.frozen? ⟨g, 1, none⟩ = false ∧ w.frozen? ⟨g, 2, none⟩ = false ∧ w.frozen? ⟨g, 3, none⟩ = false ∧ w.frozen? ⟨g, 4, none⟩ = false ∧ w.frozen? ⟨g, 5, none⟩ = false) := by
  refine ⟨⟨?_, ?_, ?_, ?_, ?_, ?_⟩, ?_, ?_, ?_, ?_, ?_, ?_⟩
  all_goals first
    | exact Go.Joins.unfrozen_of_block h _
    | (rw [Go.Joins.cell_of_block h]; rfl)
abbrev rpSet (w : World) (g : Nat) (a b c d e f : Value) : World := (((((w.setCell ⟨g, 0, none⟩ a).setCell ⟨g, 1, none⟩ b).setCell ⟨g, 2, none⟩ c).setCell ⟨g, 3, none⟩ d).setCell ⟨g, 4, none⟩ e).setCell ⟨g, 5, none⟩ f
theorem rp_set {w : World} {g : Nat} (h : w.heap[g]? = some rpB) (a b c d e f : Value) : (rpSet w g a b c d e f).heap[g]? = some (.cells #[a, b, c, d, e, f] 41 (0, 0)) := by
  have h1 := (Go.Joins.block_setCell (i := 0) h a)
  have h2 := (Go.Joins.block_setCell (i := 1) h1 b)
  have h3 := (Go.Joins.block_setCell (i := 2) h2 c)
  have h4 := (Go.Joins.block_setCell (i := 3) h3 d)
  have h5 := (Go.Joins.block_setCell (i := 4) h4 e)
  exact (Go.Joins.block_setCell (i := 5) h5 f).trans rfl
theorem rp_else {w : World} {g k : Nat} (h : k ≠ g) (a b c d e f : Value) : (rpSet w g a b c d e f).heap[k]? = w.heap[k]? := by
  unfold rpSet
  rw [set_else h, set_else h, set_else h, set_else h, set_else h, set_else h]
theorem rp_size (w : World) (g : Nat) (a b c d e f : Value) : (rpSet w g a b c d e f).heap.size = w.heap.size := by simp [World.setCell]
theorem turned_block {w w' : World} {b : Nat} (h : w.mapTurned w' b) {k : Nat} (hk : k ≠ b) : w'.heap[k]? = w.heap[k]? := by
  obtain ⟨es, clock, es', clock', h1, rfl⟩ := h
  simp only [Go.ChangeMaps.setBlock]
  rw [Array.getElem?_setIfInBounds_ne (by omega)]
theorem turned_size {w w' : World} {b : Nat} (h : w.mapTurned w' b) : w'.heap.size = w.heap.size := by
  obtain ⟨es, clock, es', clock', h1, rfl⟩ := h
  simp [Go.ChangeMaps.setBlock]
theorem Chg.low2 {s : Nat → Prop} {w w1 w2 : World} (h : Chg s w w1) (k : Below w.heap.size w1 w2) : Chg s w w2 := ⟨h.1.trans (k.mono (Nat.zero_le _)), fun j hj n => (k.block j hj).trans (h.2 j hj n)⟩
theorem rp_below {w w' : World} {B g : Nat} (h : Below B w w') (hg : B ≤ g) (a b c d e f : Value) : Below B w (rpSet w' g a b c d e f) :=
  (((((h.setCell (p := ⟨g, 0, none⟩) hg a).setCell (p := ⟨g, 1, none⟩) hg b).setCell (p := ⟨g, 2, none⟩) hg c).setCell (p := ⟨g, 3, none⟩) hg d).setCell (p := ⟨g, 4, none⟩) hg e).setCell (p := ⟨g, 5, none⟩) hg f
section
set_option maxHeartbeats 1000000
set_option maxRecDepth 100000
variable {w : World} {X b : Nat} {c : Option Nat} {S : Ms} {C : Cl}
theorem rest_any (h : Pm w X b c S) (C : Cl) : Calls Try.prog 60 #[ptr X, C.v] w fun e w' => Dn w w' X b c (S, {}) e := by
  have H := xhide h
  clear h
  go_enter Try.func60, Try.ntmps60
  go_wp2
  refine bodyPost_ret (v := rp0 0 .empty false 0) (results_cell_row (p := 4) (ty := 41) rfl _ _ (w.heap.size + 1) 41 _ (0, 0) _ rfl (ML.heap_alloc_at (by simp) _) Try.underlying41 rfl (by kernel_rfl)) rfl ?_
  exact ⟨_, c, rfl, rpv0 _ _ _ _ _ _, H.out.below (ML.below2 _ _ _), Chg.below (ML.below2 _ _ _), .inl rfl⟩
theorem abort_any (h : Pm w X b c S) (C : Cl) : Calls Try.prog 59 #[ptr X, C.v] w fun e w' => Dn w w' X b c (⟨S.L, S.t, none⟩, {}) e := by
  obtain ⟨c0, c1, c2⟩ := h.cells
  have f2 := h.free 2
  have hlt := h.lt
  have H := xhide h
  clear h
  go_enter Try.func59, Try.ntmps59
  go_wp2
  refine bodyPost_ret (v := rp0 0 .empty false 0) (results_cell_row (p := 4) (ty := 41) rfl _ _ (w.heap.size + 1) 41 _ (0, 0) _ rfl (ML.heap_alloc_at (by simp [World.setCell]) _) Try.underlying41 rfl (by kernel_rfl)) rfl ?_
  have hb := ML.below2 (w.setCell ⟨X, 2, none⟩ (.map none)) C.obj rpB
  exact ⟨_, none, rfl, rpv0 _ _ _ _ _ _, H.out.shut.below hb, set_chg.trans (Chg.below hb) (fun j hj q => q), .inr (.inl rfl)⟩
theorem get_any (h : Pm w X b c S) (ho : S.ws ≠ none) (hs : C.key.size ≤ maxLen) : Calls Try.prog 50 #[ptr X, C.v] w fun e w' => Dn w w' X b c (S, { val := (look S C.key).getD .empty, found := (look S C.key).isSome }) e := by
  obtain ⟨W2, hW2, hb2, hz, hr, hc⟩ := laid2 w C
  have HK := xhide (look_any (h.below hb2) ho C.key hs)
  have HR := xhide hr
  have HB2 := xhide hb2
  have H := xhide h
  clear h hb2 hr hc
  generalize (look S C.key).isSome = B at *
  generalize (look S C.key).getD .empty = V at *
  go_enter Try.func50, Try.ntmps50
  go_wp2_with fail
  rw [← hW2]
  refine HK.out.mono ?_
  rintro e w1 ⟨rfl, hb⟩
  have hr1 := (hb.block _ (by omega)).trans HR.out
  obtain ⟨⟨k0, k1, k2, k3, k4, k5⟩, f0, f1, f2, f3, f4, f5⟩ := rp_cells hr1
  have HR1 := xhide hr1
  have HBB : Below w.heap.size w w1 := HB2.out.trans (hb.mono (by omega))
  have hlt : w.heap.size + 1 < w1.heap.size := (Array.getElem?_eq_some_iff.1 hr1).1
  clear hr1 hb hW2
  go_wp2
  refine bodyPost_ret (v := rp0 0 V B 0) (results_cell_row (p := 4) (ty := 41) rfl _ _ (w.heap.size + 1) 41 _ (0, 0) _ rfl (rp_set HR1.out _ _ _ _ _ _) Try.underlying41 rfl (by kernel_rfl)) rfl ?_
  have hbb := rp_below HBB (g := w.heap.size + 1) (by omega) (.int .i64 0) (.string V) (.bool B) (.slice none 0 0) (.int .i64 0) (.int .i64 0)
  exact ⟨_, c, rfl, rpv0 _ _ _ _ _ _, H.out.below hbb, Chg.below hbb, .inl rfl⟩
theorem begin_any (h : Pm w X b none S) (C : Cl) : Calls Try.prog 47 #[ptr X, C.v] w fun e w' => Dn w w' X b none (⟨S.L, S.t, some []⟩, {}) e := by
  obtain ⟨c0, c1, c2⟩ := h.cells
  have f2 := h.free 2
  have hlt := h.lt
  obtain ⟨W3, hW3⟩ : ∃ W3, W3 = ((w.alloc C.obj).alloc rpB).alloc (.map #[] 0) := ⟨_, rfl⟩
  have hmm : (Instr.makeMap 64 none).run Try.prog ((w.alloc C.obj).alloc rpB) = .ok (.map (some (w.heap.size + 2))) W3 := by
    have e : (Instr.makeMap 64 none).run Try.prog ((w.alloc C.obj).alloc rpB) = .ok (.map (some ((w.alloc C.obj).alloc rpB).heap.size)) (((w.alloc C.obj).alloc rpB).alloc (.map #[] 0)) := rfl
    rw [e, hW3]; simp
  have hb3 : Below w.heap.size w W3 := by rw [hW3]; exact (ML.below2 w C.obj rpB).alloc (by simp; omega) _
  have hr3 : W3.heap[w.heap.size + 1]? = some rpB := by rw [hW3]; exact (Below.heap_alloc _ _ _ (by simp)).trans (ML.heap_alloc_at (by simp) _)
  have hM3 : Mg 9 W3 (w.heap.size + 2) (fun _ => none) 0 := by
    have : w.heap.size + 2 = ((w.alloc C.obj).alloc rpB).heap.size := by simp
    rw [hW3, this]; exact Mg.made
  have h3 := h.below hb3
  have c2' := h3.cells.2.2
  have f2' := h3.free 2
  have hz3 : W3.heap.size = w.heap.size + 3 := by rw [hW3]; simp
  obtain ⟨⟨k0, k1, k2, k3, k4, k5⟩, g0, g1, g2, g3, g4, g5⟩ := rp_cells hr3
  have hn1 : X ≠ w.heap.size + 1 := by omega
  have hn2 : w.heap.size + 1 ≠ X := by omega
  have hs3 : w.heap.size + 1 < W3.heap.size := by omega
  have H3 := xhide h3
  have HM := xhide hM3
  have HR := xhide hr3
  have HB := xhide hb3
  have H := xhide h
  clear hW3 h3 hM3 hr3 hb3 h hz3
  go_enter Try.func47, Try.ntmps47
  go_wp2
  have hr4 : (W3.setCell ⟨X, 2, none⟩ (.map (some (w.heap.size + 2)))).heap[w.heap.size + 1]? = some rpB := (set_else hn2).trans HR.out
  refine bodyPost_ret (v := rp0 0 .empty false 0) (results_cell_row (p := 4) (ty := 41) rfl _ _ (w.heap.size + 1) 41 _ (0, 0) _ rfl (rp_set hr4 _ _ _ _ _ _) Try.underlying41 rfl (by kernel_rfl)) rfl ?_
  refine ⟨_, some (w.heap.size + 2), rfl, rpv0 _ _ _ _ _ _, ?_, ?_, .inr (.inr ⟨_, rfl, by omega, rfl⟩)⟩
  · obtain ⟨f, hM, hF⟩ := H3.out.rm
    have hb := H.out.ltb
    refine ⟨(rp_else hn1 _ _ _ _ _ _).trans ((Go.Joins.block_setCell H3.out.blk _).trans rfl), ⟨H.out.ok.srt, H.out.ok.rows, H.out.ok.tm, fun ws e => ?_⟩, ⟨f, hM.same ((rp_else (by omega) _ _ _ _ _ _).trans (set_else H.out.nb.symm)), hF⟩, ⟨_, _, rfl, HM.out.same ((rp_else (by omega) _ _ _ _ _ _).trans (set_else (by omega))), Fw.nil⟩, H.out.nb, ?_, ?_⟩
    · cases e; exact ⟨List.Pairwise.nil, by simp, by simp⟩
    · intro e; cases e; omega
    · intro e; cases e; omega
  · have c1 : Chg (Ex X b none) W3 (W3.setCell ⟨X, 2, none⟩ (.map (some (w.heap.size + 2)))) := set_chg
    have c2 : Below w.heap.size (W3.setCell ⟨X, 2, none⟩ (.map (some (w.heap.size + 2)))) (rpSet (W3.setCell ⟨X, 2, none⟩ (.map (some (w.heap.size + 2)))) (w.heap.size + 1) (.int .i64 0) (.string .empty) (.bool false) (.slice none 0 0) (.int .i64 0) (.int .i64 0)) := rp_below (Below.refl _ _) (by omega) _ _ _ _ _ _
    exact (((Chg.below HB.out).trans c1 (fun j hj q => q)).low2 c2)
end
end Go.Proofs.Ytheidhkmmihjlaa

/-
  Xm4: A write.
-/
set_option linter.unusedVariables false
set_option linter.unusedSimpArgs false
namespace Go.Proofs.Ytheidhkmmihjlaa
open Go.RowKit Go.Shelf Go.Maps
open ML (Ro RS Srt nless fstOf Fst strLit strLit_inj setL setL_same setL_other delL delL_same delL_other od nl_irr nl_tr nl_tot Mg Rdg RVs strKeyed str_key turned_below zeroRo)
attribute [local go_sem] Oper.semAt_some
section
set_option maxHeartbeats 1000000
set_option maxRecDepth 100000
variable {w : World} {X b : Nat} {c : Option Nat} {S : Ms} {C : Cl}
theorem write_full (h : Pm w X b c S) (ho : S.ws ≠ none) (x : Wr) (hx : okW x = true) (hfull : wOf (S.ws.getD []) x.key = none ∧ (S.ws.getD []).length = 64) : Calls Try.prog 70 #[ptr X, x.w] w fun e w' => Dn w w' X b c (wrt S x) e := by
  obtain ⟨c0, c1, c2⟩ := h.cells
  obtain ⟨ws, hws⟩ := Option.ne_none_iff_exists'.1 ho
  have hwm := h.wm
  rw [hws] at hwm
  obtain ⟨d, g, rfl, hM, hF⟩ := hwm
  have hS := (h.ok.wsrt ws hws).1
  have f2 := h.free 2
  have hlt := h.lt
  obtain ⟨k, v, gg⟩ := x
  rw [hws, Option.getD_some] at hfull
  have hww : wrt S ⟨k, v, gg⟩ = (⟨S.L, S.t, none⟩, { code := 160 }) := by
    unfold wrt
    rw [hws]
    exact if_pos ⟨by rw [Option.getD_some, hfull.1]; rfl, hfull.2⟩
  rw [hww]
  clear hww
  have h0c : some d ≠ some X ∧ some d ≠ some b := ⟨h.nc, h.nd⟩
  have h0d := hM.lt
  have h0b := h.ltb
  have hl64 := (h.ok.wsrt ws hws).2.1
  have hkl : k.size ≤ maxLen := by have := (okW_iff.1 hx).1.2; simp only [] at this; unfold maxLen; omega
  obtain ⟨W2, hW2, hb2, hz, hr, hc⟩ := laid2w w ⟨k, v, gg⟩
  have h2 := h.below hb2
  have h0lt := h.lt
  obtain ⟨c0, c1, c2⟩ := h2.cells
  have f2 := h2.free 2
  have hlt := h2.lt
  have hM2 := hM.same (hb2.block _ hM.lt)
  have hlk : ∀ u : World, u.heap[d]? = W2.heap[d]? → (Instr.lookup 64 (.map (some d)) (.string k) true).run Try.prog u = .ok (.tuple #[((wOf ws k).map Wr.w).getD (Wr.w ⟨.empty, .empty, false⟩), .bool ((wOf ws k).map Wr.w).isSome]) u := fun u hu => by
    have := (hM2.same hu).look strKeyed Try.underlying64 (zeroWr u) (str_key hkl)
    rwa [show (Lit.string k.data.toList) = strLit k from rfl, hF.at hS] at this
  have l1 := hlk W2 rfl
  have l2 := hlk W2.drew rfl
  have l3 := hlk (W2.drew.alloc (.cells #[.string ⟨#[]⟩, .string ⟨#[]⟩, .bool false] 61)) (Below.heap_alloc _ _ _ hM2.lt)
  have l4 := hlk (W2.alloc (.cells #[.string ⟨#[]⟩, .string ⟨#[]⟩, .bool false] 61)).drew (Below.heap_alloc _ _ _ hM2.lt)
  have b0 : W2.cell? ⟨w.heap.size, 0, none⟩ = some (.string k) := by rw [Go.Joins.cell_of_block hc]; rfl
  have b1 : W2.cell? ⟨w.heap.size, 1, none⟩ = some (.string v) := by rw [Go.Joins.cell_of_block hc]; rfl
  have b2 : W2.cell? ⟨w.heap.size, 2, none⟩ = some (.bool gg) := by rw [Go.Joins.cell_of_block hc]; rfl
  have hlw : w.heap.size < W2.heap.size := by omega
  have H := xhide h2
  have HM := xhide hM2
  have HF := xhide hF
  have HB := xhide hb2
  have HR := xhide hr
  clear h h2 hM hF hlk hM2 hb2 hr hc
  go_enter Try.func70, Try.ntmps70
  go_wp2_with fail
  rw [← hW2]
  have HZ := xhide hz
  clear hW2 hz
  generalize hIS : ((wOf ws k).map Wr.w).isSome = IS at *
  generalize hV : ((wOf ws k).map Wr.w).getD (Wr.w ⟨.empty, .empty, false⟩) = V at *
  obtain ⟨vk, vv, vg, rfl⟩ : ∃ vk vv vg, V = Wr.w ⟨vk, vv, vg⟩ := by
    rw [← hV]; cases wOf ws k with
    | none => exact ⟨_, _, _, rfl⟩
    | some y => exact ⟨y.key, y.val, y.gone, rfl⟩
  clear hV
  have hkx : wOf ws k = none ↔ IS = false := by rw [← hIS]; cases wOf ws k <;> simp
  clear hIS
  have hn1 : X ≠ w.heap.size + 1 := by have := h0lt; omega
  have hn2 : w.heap.size + 1 ≠ X := fun e => hn1 e.symm
  go_region
  all_goals
    obtain ⟨W3, hW3⟩ : ∃ W3, W3 = (W2.alloc (.cells #[.string vk, .string vv, .bool vg] 61)).drew := ⟨_, rfl⟩
    rw [← hW3]
    have hb3 : Below W2.heap.size W2 W3 := by rw [hW3]; exact (ML.below1 _ _).drew
    have h3 := H.out.below hb3
    obtain ⟨x0, x1, x2⟩ := h3.cells
    have y2 := h3.free 2
    have hlt3 := h3.lt
    have hd3 := HM.out.lt
    have hM3 := HM.out.same (hb3.block _ hd3)
    have hlen := Mg.lenW hM3 HF.out hS 3
    have hs3 := hb3.size
    have hr3 : W3.heap[w.heap.size + 1]? = some rpB := (hb3.block _ (Array.getElem?_eq_some_iff.1 HR.out).1).trans HR.out
    have z0 := (hb3.cell (p := ⟨w.heap.size, 0, none⟩) hlw).trans b0
    have z1 := (hb3.cell (p := ⟨w.heap.size, 1, none⟩) hlw).trans b1
    have z2 := (hb3.cell (p := ⟨w.heap.size, 2, none⟩) hlw).trans b2
    have hlw3 : w.heap.size < W3.heap.size := by omega
    have hBW : Below w.heap.size w W3 := HB.out.trans (hb3.mono (by omega))
    have H3 := xhide h3
    have HM3 := xhide hM3
    have HR3 := xhide hr3
    have HBW := xhide hBW
    have HZ3 : Hid (W3.heap.size = w.heap.size + 3) := xhide (by rw [hW3]; show (W2.alloc _).heap.size = _; simp; have := HZ.out; omega)
    clear hW3 hb3 h3 hM3 hr3 hBW c0 c1 c2 f2 b0 b1 b2 hlt H HM HB HR HZ hlw hs3 l1 l2 l3 l4
    obtain ⟨hno, h64⟩ := hfull
    have hfl := hkx.1 hno
    subst hfl
    rw [h64] at hlen
    obtain ⟨⟨k0, k1, k2, k3, k4, k5⟩, g0, g1, g2, g3, g4, g5⟩ := rp_cells HR3.out
    have hs3 : w.heap.size + 1 < W3.heap.size := by have := HZ3.out; omega
    go_wp2
    have hr4 : (W3.setCell ⟨X, 2, none⟩ (.map none)).heap[w.heap.size + 1]? = some rpB := (set_else hn2).trans HR3.out
    refine bodyPost_ret (v := rp0 160 .empty false 0) (results_cell_row (p := 4) (ty := 41) rfl _ _ (w.heap.size + 1) 41 _ (0, 0) _ rfl (rp_set hr4 _ _ _ _ _ _) Try.underlying41 rfl (by kernel_rfl)) rfl ?_
    have hbb := rp_below (Below.refl w.heap.size (W3.setCell ⟨X, 2, none⟩ (.map none))) (g := w.heap.size + 1) (by omega) (.int .i64 160) (.string .empty) (.bool false) (.slice none 0 0) (.int .i64 0) (.int .i64 0)
    have c1 : Chg (Ex X b (some d)) W3 (W3.setCell ⟨X, 2, none⟩ (.map none)) := set_chg
    refine ⟨_, none, rfl, rpv0 _ _ _ _ _ _, ?_, ((Chg.below HBW.out).trans c1 (fun j hj q => q)).low2 hbb, .inr (.inl rfl)⟩
    have hp := H3.out.shut
    have hbX : b < w.heap.size := h0b
    exact hp.keep (hbb.block _ h0lt) (hbb.block _ h0b) nofun
theorem write_put (h : Pm w X b c S) (ho : S.ws ≠ none) (x : Wr) (hx : okW x = true) (hfull : ¬ (wOf (S.ws.getD []) x.key = none ∧ (S.ws.getD []).length = 64)) : Calls Try.prog 70 #[ptr X, x.w] w fun e w' => Dn w w' X b c (wrt S x) e := by
  obtain ⟨c0, c1, c2⟩ := h.cells
  obtain ⟨ws, hws⟩ := Option.ne_none_iff_exists'.1 ho
  have hwm := h.wm
  rw [hws] at hwm
  obtain ⟨d, g, rfl, hM, hF⟩ := hwm
  have hS := (h.ok.wsrt ws hws).1
  have f2 := h.free 2
  have hlt := h.lt
  obtain ⟨k, v, gg⟩ := x
  rw [hws, Option.getD_some] at hfull
  have hww : wrt S ⟨k, v, gg⟩ = (⟨S.L, S.t, some (putW ws ⟨k, v, gg⟩)⟩, {}) := by
    unfold wrt
    rw [hws]
    exact if_neg fun q => hfull ⟨by have := q.1; rw [Option.getD_some] at this; simpa using this, q.2⟩
  rw [hww]
  have h0c : some d ≠ some X ∧ some d ≠ some b := ⟨h.nc, h.nd⟩
  have h0d := hM.lt
  have h0b := h.ltb
  have hl64 := (h.ok.wsrt ws hws).2.1
  have hwok := wrt_ok h.ok hx
  rw [hww] at hwok
  clear hww
  have hkl : k.size ≤ maxLen := by have := (okW_iff.1 hx).1.2; simp only [] at this; unfold maxLen; omega
  obtain ⟨W2, hW2, hb2, hz, hr, hc⟩ := laid2w w ⟨k, v, gg⟩
  have h2 := h.below hb2
  have h0lt := h.lt
  obtain ⟨c0, c1, c2⟩ := h2.cells
  have f2 := h2.free 2
  have hlt := h2.lt
  have hM2 := hM.same (hb2.block _ hM.lt)
  have hlk : ∀ u : World, u.heap[d]? = W2.heap[d]? → (Instr.lookup 64 (.map (some d)) (.string k) true).run Try.prog u = .ok (.tuple #[((wOf ws k).map Wr.w).getD (Wr.w ⟨.empty, .empty, false⟩), .bool ((wOf ws k).map Wr.w).isSome]) u := fun u hu => by
    have := (hM2.same hu).look strKeyed Try.underlying64 (zeroWr u) (str_key hkl)
    rwa [show (Lit.string k.data.toList) = strLit k from rfl, hF.at hS] at this
  have l1 := hlk W2 rfl
  have l2 := hlk W2.drew rfl
  have l3 := hlk (W2.drew.alloc (.cells #[.string ⟨#[]⟩, .string ⟨#[]⟩, .bool false] 61)) (Below.heap_alloc _ _ _ hM2.lt)
  have l4 := hlk (W2.alloc (.cells #[.string ⟨#[]⟩, .string ⟨#[]⟩, .bool false] 61)).drew (Below.heap_alloc _ _ _ hM2.lt)
  have b0 : W2.cell? ⟨w.heap.size, 0, none⟩ = some (.string k) := by rw [Go.Joins.cell_of_block hc]; rfl
  have b1 : W2.cell? ⟨w.heap.size, 1, none⟩ = some (.string v) := by rw [Go.Joins.cell_of_block hc]; rfl
  have b2 : W2.cell? ⟨w.heap.size, 2, none⟩ = some (.bool gg) := by rw [Go.Joins.cell_of_block hc]; rfl
  have hlw : w.heap.size < W2.heap.size := by omega
  have H := xhide h2
  have HM := xhide hM2
  have HF := xhide hF
  have HB := xhide hb2
  have HR := xhide hr
  clear h h2 hM hF hlk hM2 hb2 hr hc
  go_enter Try.func70, Try.ntmps70
  go_wp2_with fail
  rw [← hW2]
  have HZ := xhide hz
  clear hW2 hz
  generalize hIS : ((wOf ws k).map Wr.w).isSome = IS at *
  generalize hV : ((wOf ws k).map Wr.w).getD (Wr.w ⟨.empty, .empty, false⟩) = V at *
  obtain ⟨vk, vv, vg, rfl⟩ : ∃ vk vv vg, V = Wr.w ⟨vk, vv, vg⟩ := by
    rw [← hV]; cases wOf ws k with
    | none => exact ⟨_, _, _, rfl⟩
    | some y => exact ⟨y.key, y.val, y.gone, rfl⟩
  clear hV
  have hkx : wOf ws k = none ↔ IS = false := by rw [← hIS]; cases wOf ws k <;> simp
  clear hIS
  have hn1 : X ≠ w.heap.size + 1 := by have := h0lt; omega
  have hn2 : w.heap.size + 1 ≠ X := fun e => hn1 e.symm
  go_region
  all_goals
    obtain ⟨W3, hW3⟩ : ∃ W3, W3 = (W2.alloc (.cells #[.string vk, .string vv, .bool vg] 61)).drew := ⟨_, rfl⟩
    rw [← hW3]
    have hb3 : Below W2.heap.size W2 W3 := by rw [hW3]; exact (ML.below1 _ _).drew
    have h3 := H.out.below hb3
    obtain ⟨x0, x1, x2⟩ := h3.cells
    have y2 := h3.free 2
    have hlt3 := h3.lt
    have hd3 := HM.out.lt
    have hM3 := HM.out.same (hb3.block _ hd3)
    have hlen := Mg.lenW hM3 HF.out hS 3
    have hs3 := hb3.size
    have hr3 : W3.heap[w.heap.size + 1]? = some rpB := (hb3.block _ (Array.getElem?_eq_some_iff.1 HR.out).1).trans HR.out
    have z0 := (hb3.cell (p := ⟨w.heap.size, 0, none⟩) hlw).trans b0
    have z1 := (hb3.cell (p := ⟨w.heap.size, 1, none⟩) hlw).trans b1
    have z2 := (hb3.cell (p := ⟨w.heap.size, 2, none⟩) hlw).trans b2
    have hlw3 : w.heap.size < W3.heap.size := by omega
    have hBW : Below w.heap.size w W3 := HB.out.trans (hb3.mono (by omega))
    have H3 := xhide h3
    have HM3 := xhide hM3
    have HR3 := xhide hr3
    have HBW := xhide hBW
    have HZ3 : Hid (W3.heap.size = w.heap.size + 3) := xhide (by rw [hW3]; show (W2.alloc _).heap.size = _; simp; have := HZ.out; omega)
    clear hW3 hb3 h3 hM3 hr3 hBW c0 c1 c2 f2 b0 b1 b2 hlt H HM HB HR HZ hlw hs3 l1 l2 l3 l4
    obtain ⟨w4, hrun, hM4, ht4⟩ := (HM3.out.same (w' := W3.drew) rfl).store (f' := setL g (strLit k) (Wr.w ⟨k, v, gg⟩)) strKeyed Try.underlying64 (by have := hl64; unfold maxLen; omega) (str_key hkl) (Wr.w ⟨k, v, gg⟩) setL_same (fun m hm => setL_other hm)
    have hdX : d ≠ X := fun e => h0c.1 (by rw [e])
    have hdb : d ≠ b := fun e => h0c.2 (by rw [e])
    have hr4 : w4.heap[w.heap.size + 1]? = some rpB := (turned_block ht4 (by omega)).trans HR3.out
    obtain ⟨⟨k0, k1, k2, k3, k4, k5⟩, g0, g1, g2, g3, g4, g5⟩ := rp_cells hr4
    have HR4 := xhide hr4
    have HM4 := xhide hM4
    have HT4 := xhide ht4
    have hs4 : w.heap.size + 1 < w4.heap.size := (Array.getElem?_eq_some_iff.1 hr4).1
    clear hr4 hM4 ht4
    have fin : ∀ u, u = rpSet w4 (w.heap.size + 1) (.int .i64 0) (.string .empty) (.bool false) (.slice none 0 0) (.int .i64 0) (.int .i64 0) → Dn w u X b (some d) (⟨S.L, S.t, some (putW ws ⟨k, v, gg⟩)⟩, {}) (.returned (rp0 0 .empty false 0)) := by
      rintro u rfl
      have hbb := rp_below (Below.refl w.heap.size w4) (g := w.heap.size + 1) (by omega) (.int .i64 0) (.string .empty) (.bool false) (.slice none 0 0) (.int .i64 0) (.int .i64 0)
      have c1 : Chg (Ex X b (some d)) W3 w4 := ⟨⟨(turned_below HT4.out (Below.refl 0 _) (Nat.zero_le _)).os, (turned_below HT4.out (Below.refl 0 _) (Nat.zero_le _)).tape, (turned_below HT4.out (Below.refl 0 _) (Nat.zero_le _)).output, Nat.le_of_eq (turned_size HT4.out).symm, fun k hk => absurd hk (Nat.not_lt_zero _)⟩, fun j hj n => turned_block HT4.out fun e => n (.inr (.inr (by rw [e])))⟩
      refine ⟨_, some d, rfl, rpv0 _ _ _ _ _ _, ?_, ((Chg.below HBW.out).trans c1 (fun j hj q => q)).low2 hbb, .inl rfl⟩
      obtain ⟨f, hMr, hFr⟩ := H3.out.rm
      have hok := hwok
      refine ⟨(hbb.block _ h0lt).trans ((turned_block HT4.out hdX.symm).trans H3.out.blk), hok, ⟨f, hMr.same ((hbb.block _ h0b).trans (turned_block HT4.out hdb.symm)), hFr⟩, ⟨d, _, rfl, Mg.tightW (HM4.out.same (hbb.block _ h0d)) (HF.out.put hS ⟨k, v, gg⟩) (putW_srt hS _), HF.out.put hS ⟨k, v, gg⟩⟩, H3.out.nb, H3.out.nc, H3.out.nd⟩
    have FIN := xhide fin
    clear fin
    cases IS with
    | true =>
      go_wp2
      go_region
      all_goals
        go_wp2
        exact bodyPost_ret (v := rp0 0 .empty false 0) (results_cell_row (p := 4) (ty := 41) rfl _ _ (w.heap.size + 1) 41 _ (0, 0) _ rfl (rp_set HR4.out _ _ _ _ _ _) Try.underlying41 rfl (by kernel_rfl)) rfl (FIN.out _ rfl)
    | false =>
      have hne : ¬ (ws.length : Int) = 64 := fun e => hfull ⟨hkx.2 rfl, by omega⟩
      go_wp2
      go_region
      all_goals
        go_wp2
        exact bodyPost_ret (v := rp0 0 .empty false 0) (results_cell_row (p := 4) (ty := 41) rfl _ _ (w.heap.size + 1) 41 _ (0, 0) _ rfl (rp_set HR4.out _ _ _ _ _ _) Try.underlying41 rfl (by kernel_rfl)) rfl (FIN.out _ rfl)
theorem write_any (h : Pm w X b c S) (ho : S.ws ≠ none) (x : Wr) (hx : okW x = true) : Calls Try.prog 70 #[ptr X, x.w] w fun e w' => Dn w w' X b c (wrt S x) e := by
  by_cases hf : wOf (S.ws.getD []) x.key = none ∧ (S.ws.getD []).length = 64
  · exact write_full h ho x hx hf
  · exact write_put h ho x hx hf
theorem wrt_rows (S : Ms) (x : Wr) : ∃ n, (wrt S x).2 = { code := n } := by
  unfold wrt
  split
  · exact ⟨160, rfl⟩
  · exact ⟨0, rfl⟩
theorem wrap_ret {W2 w1 : World} {c' : Option Nat} {S' : Ms} {n : Int} {ro : List Ro} (hb2 : Below w.heap.size w W2) (hz : W2.heap.size = w.heap.size + 2) (h1 : w.heap.size + 1 ≠ X) (h2 : w.heap.size + 1 ≠ b) (h3 : c ≠ some (w.heap.size + 1)) (hP : Pm w1 X b c' S') (hC : Chg (Ex X b c) W2 w1)
    (hcc : c' = c ∨ c' = none ∨ ∃ j, c' = some j ∧ W2.heap.size ≤ j ∧ ro = []) :
    Dn w (rpSet w1 (w.heap.size + 1) (.int .i64 n) (.string .empty) (.bool false) (.slice none 0 0) (.int .i64 0) (.int .i64 0)) X b c (S', { code := n }) (.returned (rp0 n .empty false 0)) := by
  have hbb := rp_below (Below.refl w.heap.size w1) (g := w.heap.size + 1) (by omega) (.int .i64 n) (.string .empty) (.bool false) (.slice none 0 0) (.int .i64 0) (.int .i64 0)
  have hc' : c' ≠ some (w.heap.size + 1) := by
    rcases hcc with e | e | ⟨j, e, hj, _⟩
    · rw [e]; exact h3
    · rw [e]; nofun
    · rw [e]; intro q; cases q; omega
  refine ⟨_, c', rfl, rpv0 _ _ _ _ _ _, hP.keep (rp_else h1.symm _ _ _ _ _ _) (rp_else h2.symm _ _ _ _ _ _) (fun c0 e => rp_else (fun q => hc' (by rw [e, q])) _ _ _ _ _ _), ((Chg.below hb2).trans hC (fun j hj q => q)).low2 hbb, ?_⟩
  rcases hcc with e | e | ⟨j, e, hj, _⟩
  · exact .inl e
  · exact .inr (.inl e)
  · exact .inr (.inr ⟨j, e, by omega, rfl⟩)
theorem put_any (h : Pm w X b c S) (ho : S.ws ≠ none) (hx : okW ⟨C.key, C.val, false⟩ = true) : Calls Try.prog 55 #[ptr X, C.v] w fun e w' => Dn w w' X b c (wrt S ⟨C.key, C.val, false⟩) e := by
  obtain ⟨W2, hW2, hb2, hz, hr, hc⟩ := laid2 w C
  have HK := xhide (write_any (h.below hb2) ho _ hx)
  have HR := xhide hr
  have HB2 := xhide hb2
  have hnX : w.heap.size + 1 ≠ X := by have := h.lt; omega
  have hnb : w.heap.size + 1 ≠ b := by have := h.ltb; omega
  have hnc : c ≠ some (w.heap.size + 1) := fun e => by have := h.ltc e; omega
  have hEx : ¬ Ex X b c (w.heap.size + 1) := fun e => by
    rcases e with e | e | e
    · exact hnX e
    · exact hnb e
    · exact hnc e
  obtain ⟨n, hn⟩ := wrt_rows S ⟨C.key, C.val, false⟩
  generalize wrt S ⟨C.key, C.val, false⟩ = P at *
  obtain ⟨S', r⟩ := P
  simp only [] at hn
  subst hn
  clear h hb2 hr hc
  go_enter Try.func55, Try.ntmps55
  go_wp2_with fail
  rw [← hW2]
  refine HK.out.mono ?_
  rintro e w1 ⟨v, c', rfl, ⟨sv, rfl, ⟨rfl, _⟩ | ⟨q, _⟩⟩, hP, hC, hcc⟩
  · have hr1 : w1.heap[w.heap.size + 1]? = some rpB := (hC.2 _ (by omega) hEx).trans HR.out
    obtain ⟨⟨k0, k1, k2, k3, k4, k5⟩, f0, f1, f2, f3, f4, f5⟩ := rp_cells hr1
    have HR1 := xhide hr1
    have FIN := xhide (wrap_ret (n := n) HB2.out hz hnX hnb hnc hP hC hcc)
    have hlt : w.heap.size + 1 < w1.heap.size := (Array.getElem?_eq_some_iff.1 hr1).1
    clear hr1 hP hC hcc hW2 hz hnX hnb hnc
    go_wp2
    exact bodyPost_ret (v := rp0 n .empty false 0) (results_cell_row (p := 4) (ty := 41) rfl _ _ (w.heap.size + 1) 41 _ (0, 0) _ rfl (rp_set HR1.out _ _ _ _ _ _) Try.underlying41 rfl (by kernel_rfl)) rfl FIN.out
  · exact absurd rfl q
theorem take_any (h : Pm w X b c S) (ho : S.ws ≠ none) (hx : okW ⟨C.key, ⟨#[]⟩, true⟩ = true) : Calls Try.prog 57 #[ptr X, C.v] w fun e w' => Dn w w' X b c (wrt S ⟨C.key, ⟨#[]⟩, true⟩) e := by
  obtain ⟨W2, hW2, hb2, hz, hr, hc⟩ := laid2 w C
  have HK := xhide (write_any (h.below hb2) ho _ hx)
  have HR := xhide hr
  have HB2 := xhide hb2
  have hnX : w.heap.size + 1 ≠ X := by have := h.lt; omega
  have hnb : w.heap.size + 1 ≠ b := by have := h.ltb; omega
  have hnc : c ≠ some (w.heap.size + 1) := fun e => by have := h.ltc e; omega
  have hEx : ¬ Ex X b c (w.heap.size + 1) := fun e => by
    rcases e with e | e | e
    · exact hnX e
    · exact hnb e
    · exact hnc e
  obtain ⟨n, hn⟩ := wrt_rows S ⟨C.key, ⟨#[]⟩, true⟩
  generalize wrt S ⟨C.key, ⟨#[]⟩, true⟩ = P at *
  obtain ⟨S', r⟩ := P
  simp only [] at hn
  subst hn
  clear h hb2 hr hc
  go_enter Try.func57, Try.ntmps57
  go_wp2_with fail
  rw [← hW2]
  refine HK.out.mono ?_
  rintro e w1 ⟨v, c', rfl, ⟨sv, rfl, ⟨rfl, _⟩ | ⟨q, _⟩⟩, hP, hC, hcc⟩
  · have hr1 : w1.heap[w.heap.size + 1]? = some rpB := (hC.2 _ (by omega) hEx).trans HR.out
    obtain ⟨⟨k0, k1, k2, k3, k4, k5⟩, f0, f1, f2, f3, f4, f5⟩ := rp_cells hr1
    have HR1 := xhide hr1
    have FIN := xhide (wrap_ret (n := n) HB2.out hz hnX hnb hnc hP hC hcc)
    have hlt : w.heap.size + 1 < w1.heap.size := (Array.getElem?_eq_some_iff.1 hr1).1
    clear hr1 hP hC hcc hW2 hz hnX hnb hnc
    go_wp2
    exact bodyPost_ret (v := rp0 n .empty false 0) (results_cell_row (p := 4) (ty := 41) rfl _ _ (w.heap.size + 1) 41 _ (0, 0) _ rfl (rp_set HR1.out _ _ _ _ _ _) Try.underlying41 rfl (by kernel_rfl)) rfl FIN.out
  · exact absurd rfl q
end
end Go.Proofs.Ytheidhkmmihjlaa
