/-
  Xm3: What calls do, one function each: begin, get, abort, rest; a write.
-/
import Derived.Test.YtheidhkmmihjlaaXm2
import Derived.Test.YtheidhkmmihjlaaXn9
set_option linter.unusedVariables false
set_option linter.unusedSimpArgs false
namespace Go.Proofs.Ytheidhkmmihjlaa
open Go.RowKit Go.Shelf Go.Maps
open ML (Ro RS Srt nless fstOf Fst strLit strLit_inj setL setL_same setL_other delL delL_same delL_other od nl_irr nl_tr nl_tot Mg Rdg RVs strKeyed str_key turned_below zeroRo)
attribute [local go_sem] Oper.semAt_some

/-- A reply in memory: its rows in new memory. -/
def RpV (w : World) (B : Nat) (v : Value) (r : Rp) : Prop := ∃ sv, v = .agg #[.int .i64 r.code, .string r.val, .bool r.found, sv, .int .i64 r.time, .int .i64 0] ∧ ((sv = .slice none 0 0 ∧ r.rows = []) ∨ (r.rows ≠ [] ∧ ML.Wr w B sv r.rows))
/-- What a call leaves. -/
def Dn (w w' : World) (X b : Nat) (c : Option Nat) (p : Ms × Rp) (e : Ending) : Prop :=
  ∃ v c', e = .returned v ∧ RpV w' w.heap.size v p.2 ∧ Pm w' X b c' p.1 ∧ Chg (Ex X b c) w w' ∧ (c' = c ∨ c' = none ∨ ∃ j, c' = some j ∧ w.heap.size ≤ j ∧ p.2.rows = [])
abbrev rp0 (code : Int) (val : ByteArray) (found : Bool) (time : Int) : Value := .agg #[.int .i64 code, .string val, .bool found, .slice none 0 0, .int .i64 time, .int .i64 0]
theorem rpv0 (w : World) (B : Nat) (code : Int) (val : ByteArray) (found : Bool) (time : Int) : RpV w B (rp0 code val found time) { code := code, val := val, found := found, time := time } := ⟨_, rfl, .inl ⟨rfl, rfl⟩⟩
theorem Pm.free {w : World} {X b : Nat} {c : Option Nat} {S : Ms} (h : Pm w X b c S) (i : Nat) : w.frozen? ⟨X, i, none⟩ = false := Go.Joins.unfrozen_of_block h.blk i
theorem set_else {w : World} {X i k : Nat} {u : Value} (h : k ≠ X) : (w.setCell ⟨X, i, none⟩ u).heap[k]? = w.heap[k]? := Below.heap_setCell _ _ _ _ (fun e => h e)
theorem set_chg {w : World} {X b i : Nat} {c : Option Nat} {u : Value} : Chg (Ex X b c) w (w.setCell ⟨X, i, none⟩ u) := ⟨⟨rfl, rfl, rfl, by simp [World.setCell], fun k hk => absurd hk (Nat.not_lt_zero _)⟩, fun j hj n => set_else fun e => n (.inl e)⟩
/-- The field of what the transaction wrote, emptied. -/
theorem Pm.shut {w : World} {X b : Nat} {c : Option Nat} {S : Ms} (h : Pm w X b c S) : Pm (w.setCell ⟨X, 2, none⟩ (.map none)) X b none ⟨S.L, S.t, none⟩ := by
  obtain ⟨f, hM, hF⟩ := h.rm
  exact ⟨(Go.Joins.block_setCell h.blk _).trans rfl, h.ok.shut, ⟨f, hM.same (set_else h.nb.symm), hF⟩, rfl, h.nb, nofun, nofun⟩
abbrev rpB : Obj := .cells #[.int .i64 0, .string ⟨#[]⟩, .bool false, .slice none 0 0, .int .i64 0, .int .i64 0] 41 (0, 0)
abbrev Cl.obj (C : Cl) : Obj := .cells #[.int .i64 C.kind, .int .i64 C.mode, .string C.key, .string C.high, .string C.val, .int .i64 C.draw, .int .i64 C.n] 33 (0, 0)
/-- A call and a reply have been laid. -/
theorem laid2 (w : World) (C : Cl) : ∃ W2, W2 = (w.alloc C.obj).alloc rpB ∧ Below w.heap.size w W2 ∧ W2.heap.size = w.heap.size + 2 ∧ W2.heap[w.heap.size + 1]? = some rpB ∧ W2.heap[w.heap.size]? = some C.obj :=
  ⟨_, rfl, ML.below2 _ _ _, by simp, ML.heap_alloc_at (by simp) _, (Below.heap_alloc _ _ _ (by simp)).trans (ML.heap_alloc_at rfl _)⟩
abbrev rpA (code : Int) (val : ByteArray) (found : Bool) (sv : Value) (time : Int) : Array Value := #[.int .i64 code, .string val, .bool found, sv, .int .i64 time, .int .i64 0]
theorem infoRp : (Try.prog.info? 41).map (·.size) = some 6 := by kernel_rfl
theorem row_below {w w' : World} {B g : Nat} (h : Below B w w') (hg : B ≤ g) (cs : Array Value) : Below B w (w'.setRow g cs) := Go.below_setRow h hg cs
abbrev Wr.obj (x : Wr) : Obj := .cells #[.string x.key, .string x.val, .bool x.gone] 61 (0, 0)
theorem laid2w (w : World) (x : Wr) : ∃ W2, W2 = (w.alloc x.obj).alloc rpB ∧ Below w.heap.size w W2 ∧ W2.heap.size = w.heap.size + 2 ∧ W2.heap[w.heap.size + 1]? = some rpB ∧ W2.heap[w.heap.size]? = some x.obj :=
  ⟨_, rfl, ML.below2 _ _ _, by simp, ML.heap_alloc_at (by simp) _, (Below.heap_alloc _ _ _ (by simp)).trans (ML.heap_alloc_at rfl _)⟩
theorem rp_cells {w : World} {g : Nat} (h : w.heap[g]? = some rpB) : (w.cell? ⟨g, 0, none⟩ = some (.int .i64 0) ∧ w.cell? ⟨g, 1, none⟩ = some (.string ⟨#[]⟩) ∧ w.cell? ⟨g, 2, none⟩ = some (.bool false) ∧ w.cell? ⟨g, 3, none⟩ = some (.slice none 0 0) ∧ w.cell? ⟨g, 4, none⟩ = some (.int .i64 0) ∧ w.cell? ⟨g, 5, none⟩ = some (.int .i64 0)) ∧
    (w.frozen? ⟨g, 0, none⟩ = false ∧ w.frozen? ⟨g, 1, none⟩ = false ∧ w.frozen? ⟨g, 2, none⟩ = false ∧ w.frozen? ⟨g, 3, none⟩ = false ∧ w.frozen? ⟨g, 4, none⟩ = false ∧ w.frozen? ⟨g, 5, none⟩ = false) := by
  refine ⟨⟨?_, ?_, ?_, ?_, ?_, ?_⟩, ?_, ?_, ?_, ?_, ?_, ?_⟩
  all_goals first
    | exact Go.Joins.unfrozen_of_block h _
    | (rw [Go.Joins.cell_of_block h]; rfl)
abbrev rpSet (w : World) (g : Nat) (a b c d e f : Value) : World := (((((w.setCell ⟨g, 0, none⟩ a).setCell ⟨g, 1, none⟩ b).setCell ⟨g, 2, none⟩ c).setCell ⟨g, 3, none⟩ d).setCell ⟨g, 4, none⟩ e).setCell ⟨g, 5, none⟩ f
theorem rp_set {w : World} {g : Nat} (h : w.heap[g]? = some rpB) (a b c d e f : Value) : (rpSet w g a b c d e f).heap[g]? = some (.cells #[a, b, c, d, e, f] 41 (0, 0)) := by
  have h1 := (Go.Joins.block_setCell (i := 0) h a)
  have h2 := (Go.Joins.block_setCell (i := 1) h1 b)
  have h3 := (Go.Joins.block_setCell (i := 2) h2 c)
  have h4 := (Go.Joins.block_setCell (i := 3) h3 d)
  have h5 := (Go.Joins.block_setCell (i := 4) h4 e)
  exact (Go.Joins.block_setCell (i := 5) h5 f).trans rfl
theorem rp_else {w : World} {g k : Nat} (h : k ≠ g) (a b c d e f : Value) : (rpSet w g a b c d e f).heap[k]? = w.heap[k]? := by
  unfold rpSet
  rw [set_else h, set_else h, set_else h, set_else h, set_else h, set_else h]
theorem rp_size (w : World) (g : Nat) (a b c d e f : Value) : (rpSet w g a b c d e f).heap.size = w.heap.size := by simp [World.setCell]
theorem turned_block {w w' : World} {b : Nat} (h : w.mapTurned w' b) {k : Nat} (hk : k ≠ b) : w'.heap[k]? = w.heap[k]? := by
  obtain ⟨es, clock, es', clock', h1, rfl⟩ := h
  simp only [Go.ChangeMaps.setBlock]
  rw [Array.getElem?_setIfInBounds_ne (by omega)]
theorem turned_size {w w' : World} {b : Nat} (h : w.mapTurned w' b) : w'.heap.size = w.heap.size := by
  obtain ⟨es, clock, es', clock', h1, rfl⟩ := h
  simp [Go.ChangeMaps.setBlock]
theorem Chg.low2 {s : Nat → Prop} {w w1 w2 : World} (h : Chg s w w1) (k : Below w.heap.size w1 w2) : Chg s w w2 := ⟨h.1.trans (k.mono (Nat.zero_le _)), fun j hj n => (k.block j hj).trans (h.2 j hj n)⟩
theorem rp_below {w w' : World} {B g : Nat} (h : Below B w w') (hg : B ≤ g) (a b c d e f : Value) : Below B w (rpSet w' g a b c d e f) :=
  (((((h.setCell (p := ⟨g, 0, none⟩) hg a).setCell (p := ⟨g, 1, none⟩) hg b).setCell (p := ⟨g, 2, none⟩) hg c).setCell (p := ⟨g, 3, none⟩) hg d).setCell (p := ⟨g, 4, none⟩) hg e).setCell (p := ⟨g, 5, none⟩) hg f
section
set_option maxHeartbeats 1000000
set_option maxRecDepth 100000
variable {w : World} {X b : Nat} {c : Option Nat} {S : Ms} {C : Cl}
theorem rest_any (h : Pm w X b c S) (C : Cl) : Calls Try.prog 60 #[ptr X, C.v] w fun e w' => Dn w w' X b c (S, {}) e := by
  have H := xhide h
  clear h
  go_enter Try.func60, Try.ntmps60
  go_wp2
  refine bodyPost_ret (v := rp0 0 .empty false 0) (results_cell_row (p := 4) (ty := 41) rfl _ _ (w.heap.size + 1) 41 _ (0, 0) _ rfl (ML.heap_alloc_at (by simp) _) Try.underlying41 rfl (by kernel_rfl)) rfl ?_
  exact ⟨_, c, rfl, rpv0 _ _ _ _ _ _, H.out.below (ML.below2 _ _ _), Chg.below (ML.below2 _ _ _), .inl rfl⟩
theorem abort_any (h : Pm w X b c S) (C : Cl) : Calls Try.prog 59 #[ptr X, C.v] w fun e w' => Dn w w' X b c (⟨S.L, S.t, none⟩, {}) e := by
  obtain ⟨c0, c1, c2⟩ := h.cells
  have f2 := h.free 2
  have hlt := h.lt
  have H := xhide h
  clear h
  go_enter Try.func59, Try.ntmps59
  go_wp2
  refine bodyPost_ret (v := rp0 0 .empty false 0) (results_cell_row (p := 4) (ty := 41) rfl _ _ (w.heap.size + 1) 41 _ (0, 0) _ rfl (ML.heap_alloc_at (by simp [World.setCell]) _) Try.underlying41 rfl (by kernel_rfl)) rfl ?_
  have hb := ML.below2 (w.setCell ⟨X, 2, none⟩ (.map none)) C.obj rpB
  exact ⟨_, none, rfl, rpv0 _ _ _ _ _ _, H.out.shut.below hb, set_chg.trans (Chg.below hb) (fun j hj q => q), .inr (.inl rfl)⟩
theorem get_any (h : Pm w X b c S) (ho : S.ws ≠ none) (hs : C.key.size ≤ maxLen) : Calls Try.prog 50 #[ptr X, C.v] w fun e w' => Dn w w' X b c (S, { val := (look S C.key).getD .empty, found := (look S C.key).isSome }) e := by
  obtain ⟨W2, hW2, hb2, hz, hr, hc⟩ := laid2 w C
  have HK := xhide (look_any (h.below hb2) ho C.key hs)
  have HR := xhide hr
  have HB2 := xhide hb2
  have H := xhide h
  clear h hb2 hr hc
  generalize (look S C.key).isSome = B at *
  generalize (look S C.key).getD .empty = V at *
  go_enter Try.func50, Try.ntmps50
  go_wp2_with fail
  rw [← hW2]
  refine HK.out.mono ?_
  rintro e w1 ⟨rfl, hb⟩
  have hr1 := (hb.block _ (by omega)).trans HR.out
  obtain ⟨⟨k0, k1, k2, k3, k4, k5⟩, f0, f1, f2, f3, f4, f5⟩ := rp_cells hr1
  have HR1 := xhide hr1
  have HBB : Below w.heap.size w w1 := HB2.out.trans (hb.mono (by omega))
  have hlt : w.heap.size + 1 < w1.heap.size := (Array.getElem?_eq_some_iff.1 hr1).1
  clear hr1 hb hW2
  go_wp2
  refine bodyPost_ret (v := rp0 0 V B 0) (results_cell_row (p := 4) (ty := 41) rfl _ _ (w.heap.size + 1) 41 _ (0, 0) _ rfl (rp_set HR1.out _ _ _ _ _ _) Try.underlying41 rfl (by kernel_rfl)) rfl ?_
  have hbb := rp_below HBB (g := w.heap.size + 1) (by omega) (.int .i64 0) (.string V) (.bool B) (.slice none 0 0) (.int .i64 0) (.int .i64 0)
  exact ⟨_, c, rfl, rpv0 _ _ _ _ _ _, H.out.below hbb, Chg.below hbb, .inl rfl⟩
theorem begin_any (h : Pm w X b none S) (C : Cl) : Calls Try.prog 47 #[ptr X, C.v] w fun e w' => Dn w w' X b none (⟨S.L, S.t, some []⟩, {}) e := by
  obtain ⟨c0, c1, c2⟩ := h.cells
  have f2 := h.free 2
  have hlt := h.lt
  obtain ⟨W3, hW3⟩ : ∃ W3, W3 = ((w.alloc C.obj).alloc rpB).alloc (.map #[] 0) := ⟨_, rfl⟩
  have hmm : (Instr.makeMap 64 none).run Try.prog ((w.alloc C.obj).alloc rpB) = .ok (.map (some (w.heap.size + 2))) W3 := by
    have e : (Instr.makeMap 64 none).run Try.prog ((w.alloc C.obj).alloc rpB) = .ok (.map (some ((w.alloc C.obj).alloc rpB).heap.size)) (((w.alloc C.obj).alloc rpB).alloc (.map #[] 0)) := rfl
    rw [e, hW3]; simp
  have hb3 : Below w.heap.size w W3 := by rw [hW3]; exact (ML.below2 w C.obj rpB).alloc (by simp; omega) _
  have hr3 : W3.heap[w.heap.size + 1]? = some rpB := by rw [hW3]; exact (Below.heap_alloc _ _ _ (by simp)).trans (ML.heap_alloc_at (by simp) _)
  have hM3 : Mg 9 W3 (w.heap.size + 2) (fun _ => none) 0 := by
    have : w.heap.size + 2 = ((w.alloc C.obj).alloc rpB).heap.size := by simp
    rw [hW3, this]; exact Mg.made
  have h3 := h.below hb3
  have c2' := h3.cells.2.2
  have f2' := h3.free 2
  have hz3 : W3.heap.size = w.heap.size + 3 := by rw [hW3]; simp
  obtain ⟨⟨k0, k1, k2, k3, k4, k5⟩, g0, g1, g2, g3, g4, g5⟩ := rp_cells hr3
  have hn1 : X ≠ w.heap.size + 1 := by omega
  have hn2 : w.heap.size + 1 ≠ X := by omega
  have hs3 : w.heap.size + 1 < W3.heap.size := by omega
  have H3 := xhide h3
  have HM := xhide hM3
  have HR := xhide hr3
  have HB := xhide hb3
  have H := xhide h
  clear hW3 h3 hM3 hr3 hb3 h hz3
  go_enter Try.func47, Try.ntmps47
  go_wp2
  have hr4 : (W3.setCell ⟨X, 2, none⟩ (.map (some (w.heap.size + 2)))).heap[w.heap.size + 1]? = some rpB := (set_else hn2).trans HR.out
  refine bodyPost_ret (v := rp0 0 .empty false 0) (results_cell_row (p := 4) (ty := 41) rfl _ _ (w.heap.size + 1) 41 _ (0, 0) _ rfl (rp_set hr4 _ _ _ _ _ _) Try.underlying41 rfl (by kernel_rfl)) rfl ?_
  refine ⟨_, some (w.heap.size + 2), rfl, rpv0 _ _ _ _ _ _, ?_, ?_, .inr (.inr ⟨_, rfl, by omega, rfl⟩)⟩
  · obtain ⟨f, hM, hF⟩ := H3.out.rm
    have hb := H.out.ltb
    refine ⟨(rp_else hn1 _ _ _ _ _ _).trans ((Go.Joins.block_setCell H3.out.blk _).trans rfl), ⟨H.out.ok.srt, H.out.ok.rows, H.out.ok.tm, fun ws e => ?_⟩, ⟨f, hM.same ((rp_else (by omega) _ _ _ _ _ _).trans (set_else H.out.nb.symm)), hF⟩, ⟨_, _, rfl, HM.out.same ((rp_else (by omega) _ _ _ _ _ _).trans (set_else (by omega))), Fw.nil⟩, H.out.nb, ?_, ?_⟩
    · cases e; exact ⟨List.Pairwise.nil, by simp, by simp⟩
    · intro e; cases e; omega
    · intro e; cases e; omega
  · have c1 : Chg (Ex X b none) W3 (W3.setCell ⟨X, 2, none⟩ (.map (some (w.heap.size + 2)))) := set_chg
    have c2 : Below w.heap.size (W3.setCell ⟨X, 2, none⟩ (.map (some (w.heap.size + 2)))) (rpSet (W3.setCell ⟨X, 2, none⟩ (.map (some (w.heap.size + 2)))) (w.heap.size + 1) (.int .i64 0) (.string .empty) (.bool false) (.slice none 0 0) (.int .i64 0) (.int .i64 0)) := rp_below (Below.refl _ _) (by omega) _ _ _ _ _ _
    exact (((Chg.below HB.out).trans c1 (fun j hj q => q)).low2 c2)
end
end Go.Proofs.Ytheidhkmmihjlaa
