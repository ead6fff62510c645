/-
  put: an operation takes a cell, or puts its key in.
-/
import Derived.Test.YtbpihkojmbfccaaDoorHa4
import Derived.ScopeJumps
import Derived.WalkMore
set_option linter.unusedVariables false
set_option linter.unusedSimpArgs false
namespace Go.Proofs.YtbpihkojmbfccaaDoor
open Go.RowKit Go.Maps

/-- A scope whose label is jumped to from ahead alone: what follows the label is walked where the jump stands. -/
theorem scope_ahead {P : Program} {Q : Exit → Act → World → Prop} {a : Act} {w : World} {c rest : Code} (l : Nat) (hf : findLabel c l = some rest)
    (first : c.wp P (Exit.jump l (fun a' w' => rest.wp P (Exit.noGoto Q) a' w') Q) a w) : (Code.scope c).wp P Q a w := by
  refine wp_scope_jumps l (fun a' w' => rest.wp P (Exit.noGoto Q) a' w') (fun _ _ => 0) hf first fun a' w' h => ?_
  refine wp_mono h fun e a1 w1 hq => ?_
  cases e with
  | goto l' => exact hq.elim
  | normal => exact hq
  | exit _ => exact hq
  | ret => exact hq
  | panic _ => exact hq
  | outgrown => exact hq
theorem jump_ret {l : Nat} {J : Act → World → Prop} {Q : Exit → Act → World → Prop} {a : Act} {w : World} : Exit.jump l J Q .ret a w = Q .ret a w := rfl
theorem jump_to {l : Nat} {J : Act → World → Prop} {Q : Exit → Act → World → Prop} {a : Act} {w : World} (h : J a w) : Exit.jump l J Q (.goto l) a w := ⟨rfl, h⟩
theorem noGoto_normal {Q : Exit → Act → World → Prop} {a : Act} {w : World} : Exit.noGoto Q .normal a w = Q .normal a w := rfl

section
variable {w w' : World} {K : Nat → Prop} {tb d g hb hc mb : Nat} {sv : Value} {D : DataW Value} {T : List Bool} {N : List Int} {m : Int} {F : List Nat} {s : Tb} {ob : Nat} {o : Opm}

set_option maxRecDepth 100000 in
set_option maxHeartbeats 2000000 in
/-- put: a cell is taken. -/
theorem put_take (h : Hm w K tb d g hb hc mb sv D T N m F s) (ho : Om w ob (tp tb) o) (hob : ¬ K ob) (hsp : o.spare s = false) {c : Nat} (hc1 : T.getD c true = false) (hmin : ∀ j, j < c → T.getD j true = true) (hl2 : s.sp.length ≤ 1000000) :
    Calls Tryd.prog 36 #[.pointer (some ⟨ob, 0, none⟩)] w fun e w' => e = .returned (.tuple #[]) ∧ ∃ K' sv', Hm w' K' tb d g hb hc mb sv' D (T.set c true) (N.set c 0) m (flip F c) { s with sp := s.sp ++ [c] } ∧ Om w' ob (tp tb) { o with cell := some c } ∧ (∀ j, j < w.heap.size → (K' j ↔ K j)) ∧ Fr (fun j => K j ∨ j = ob) w w' := by
  obtain ⟨c0, c1, c2, c3, c4, c5, c6, c7, c8, c9⟩ := ho.cells
  have hs := h.isSpare (cellI o.cell)
  rw [spare_cell, hsp] at hs
  have HS := hide2 hs
  have HT := hide2 (h.take hc1 hmin hl2)
  have H := hide2 h
  have HO := hide2 ho
  have hlt := ho.lt
  have hneg : ((c : Int) == -1) = false := by simp
  have hneg2 : ¬ (c : Int) = -1 := by omega
  clear hs h ho c1 c2 c3 c4 c5 c6 c7 c9
  go_enter Tryd.func36, Tryd.ntmps36
  refine scope_ahead 0 rfl ?_
  go_wp2_with fail
  refine HS.out.mono ?_
  rintro e w0 ⟨rfl, q0⟩
  subst q0
  go_wp2_with fail
  refine HT.out.mono ?_
  rintro e w1 ⟨rfl, sv', h1, hK1, hF1⟩
  have o1 := HO.out.fr hF1 hob
  obtain ⟨b0, b1, b2, b3, b4, b5, b6, b7, b8, b9⟩ := o1.cells
  have f8 := o1.free 8
  have hlt1 := o1.lt
  have H1 := hide2 h1
  have O1 := hide2 o1
  clear HS HT h1 o1 c0 c8 b0 b1 b2 b3 b4 b5 b6 b7 b9
  go_wp2
  rw [jump_ret]
  refine bodyPost_ret (results_none rfl _ _ _) rfl ?_
  have hz := HO.out.zero H.out.tab
  refine ⟨rfl, _, sv', H1.out.keep (Fr.setCell (p := ⟨ob, 8, none⟩) (Fr.refl (fun j => j = ob) w1) (.inl rfl) _) (fun j hj e => ?_) (fun e => hz e.symm), O1.out.setCell (some c), fun j hj => ⟨fun e => ?_, fun e => .inl e⟩, Fr.setCell (p := ⟨ob, 8, none⟩) (hF1.mono (G := fun j => K j ∨ j = ob) (fun _ _ e => .inl e)) (.inl (.inr rfl)) _⟩
  · subst e
    rcases hj with e | e
    · exact hob e
    · rcases hK1 j e with e | e
      · exact hob e
      · omega
  · rcases e with e | e
    · exact e
    · rcases hK1 j e with e | e
      · exact e
      · omega

set_option maxRecDepth 100000 in
set_option maxHeartbeats 2000000 in
/-- put: there is no free cell, and none is spare. -/
theorem put_full (h : Hm w K tb d g hb hc mb sv D T N m F s) (ho : Om w ob (tp tb) o) (hob : ¬ K ob) (hsp : o.spare s = false) (hf : T.count true = T.length) (hs0 : s.sp = []) :
    Calls Tryd.prog 36 #[.pointer (some ⟨ob, 0, none⟩)] w fun e w' => e = .returned (.tuple #[]) ∧ Hm w' K tb d g hb hc mb sv D T N m F s ∧ Om w' ob (tp tb) { o with cell := none, full := true, st := 0 } ∧ Fr (fun j => j = ob) w w' := by
  obtain ⟨c0, c1, c2, c3, c4, c5, c6, c7, c8, c9⟩ := ho.cells
  have hs := h.isSpare (cellI o.cell)
  rw [spare_cell, hsp] at hs
  have HS := hide2 hs
  have HT := hide2 (h.take_full hf)
  have H := hide2 h
  have HO := hide2 ho
  have hlt := ho.lt
  have HS0 := hide2 hs0
  clear hs h ho c1 c2 c3 c4 c5 c6 c7 c9 hs0
  go_enter Tryd.func36, Tryd.ntmps36
  refine scope_ahead 0 rfl ?_
  go_wp2_with fail
  refine HS.out.mono ?_
  rintro e w0 ⟨rfl, q0⟩
  subst q0
  go_wp2_with fail
  refine HT.out.mono ?_
  rintro e w1 ⟨rfl, q, hw1⟩
  have hF1 : Fr (fun _ => False) w0 w1 := by rw [hw1]; exact (Fr.refl _ w0).drewN q
  have o1 := HO.out.fr hF1 id
  have h1 := H.out.keep hF1 (fun _ _ e => e) (fun e => e)
  clear hw1
  obtain ⟨b0, b1, b2, b3, b4, b5, b6, b7, b8, b9⟩ := o1.cells
  have f8 := o1.free 8
  have hlt1 := o1.lt
  have o2 := o1.setCell none
  have h2 := h1.keep (Fr.setCell (p := ⟨ob, 8, none⟩) (Fr.refl (fun j => j = ob) w1) (.inl rfl) (.int .i64 (cellI none))) (fun j hj e => hob (e ▸ hj)) (fun e => HO.out.zero H.out.tab e.symm)
  have ha := h2.anySpare
  rw [HS0.out] at ha
  have HA : Hid (Calls Tryd.prog 49 #[.pointer (some ⟨tb, 0, none⟩)] (w1.setCell ⟨ob, 8, none⟩ (.int .i64 (-1))) fun e w' => e = .returned (.int .i64 (-1)) ∧ w' = w1.setCell ⟨ob, 8, none⟩ (.int .i64 (-1))) := hide2 ha
  have f9 := o2.free 9
  have f6 := o2.free 6
  have d9 := o2.cells.2.2.2.2.2.2.2.2.2
  have d6 := o2.cells.2.2.2.2.2.2.1
  have O2 := hide2 o2
  have H2 := hide2 h2
  have O1 := hide2 o1
  have g9 := o1.free 9
  have g6 := o1.free 6
  clear HS HT h1 o1 c0 c8 b0 b1 b2 b3 b4 b5 b7 h2 o2 ha
  go_wp2_with fail
  refine HA.out.mono ?_
  rintro e w2 ⟨rfl, q2⟩
  subst q2
  go_wp2
  go_step3
  refine And.intro rfl ?_
  go_wp2
  rw [noGoto_normal]
  go_end0
  have O4 := ((O1.out.setCell none).setFull true).setSt 0
  exact ⟨rfl, H2.out.keep (Fr.setCell (p := ⟨ob, 6, none⟩) (Fr.setCell (p := ⟨ob, 9, none⟩) (Fr.refl (fun j => j = ob) _) (.inl rfl) (.bool true)) (.inl rfl) (.int .i64 0)) (fun j hj e => hob (e ▸ hj)) (fun e => HO.out.zero H.out.tab e.symm), O4,
    (((hF1.mono (G := fun j => j = ob) (fun _ _ e => e.elim)).setCell (p := ⟨ob, 8, none⟩) (.inl rfl) _).setCell (p := ⟨ob, 9, none⟩) (.inl rfl) _).setCell (p := ⟨ob, 6, none⟩) (.inl rfl) _⟩
end
end Go.Proofs.YtbpihkojmbfccaaDoor
