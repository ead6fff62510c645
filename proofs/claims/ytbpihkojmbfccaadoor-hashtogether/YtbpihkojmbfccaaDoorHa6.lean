/-
  put: an operation puts its key in, or comes too late.
-/
import Derived.Test.YtbpihkojmbfccaaDoorHa5
set_option linter.unusedVariables false
set_option linter.unusedSimpArgs false
namespace Go.Proofs.YtbpihkojmbfccaaDoor
open Go.RowKit Go.Maps

section
variable {w w' : World} {K : Nat → Prop} {tb d g hb hc mb : Nat} {sv : Value} {D : DataW Value} {T : List Bool} {N : List Int} {m : Int} {F : List Nat} {s : Tb} {ob : Nat} {o : Opm}

set_option maxRecDepth 100000 in
set_option maxHeartbeats 4000000 in
/-- put, with a cell of its own: too late. -/
theorem put_late (h : Hm w K tb d g hb hc mb sv D T N m F s) (ho : Om w ob (tp tb) o) (hob : ¬ K ob) {c : Nat} (hcell : o.cell = some c) (hcs : c ∈ s.sp) (hcl : c ≤ 65535) (hp : T.getD o.pl false = true) (hv : N.getD o.pl 0 ≠ 0) (hm : 0 ≤ m ∧ m < 4611686018427387904) :
    Calls Tryd.prog 36 #[.pointer (some ⟨ob, 0, none⟩)] w fun e w' => e = .returned (.tuple #[]) ∧ Hm w' K tb d g hb hc mb sv D T N (m + 1) F s ∧ Om w' ob (tp tb) { o with st := 0 } ∧ Fr (fun j => K j ∨ j = ob) w w' := by
  obtain ⟨c0, c1, c2, c3, c4, c5, c6, c7, c8, c9⟩ := ho.cells
  have hs := h.isSpare (c : Int)
  have e1 : (s.sp.map fun c : Nat => (c : Int)).contains (c : Int) = true := by
    rw [List.contains_iff_mem]
    exact List.mem_map.2 ⟨c, hcs, rfl⟩
  rw [e1] at hs
  rw [hcell] at c8
  have c8' : w.cell? ⟨ob, 8, none⟩ = some (.int .i64 (c : Int)) := c8
  have HS := hide2 hs
  have hFd : Fr (fun _ => False) w w.drew := (Fr.refl _ w).drew
  have hd := h.keep hFd (fun _ _ e => e) (fun e => e)
  have HL := hide2 (hd.link_no (p := o.pl) (c := c) hp hv (by omega) hm o.k o.r)
  have H := hide2 h
  have HO := hide2 ho
  have hlt := ho.lt
  clear hs h ho hd e1 hcell c8 c1 c4 c5 c6 c9 hv
  go_enter Tryd.func36, Tryd.ntmps36
  refine scope_ahead 0 rfl ?_
  go_wp2_with fail
  refine HS.out.mono ?_
  rintro e w0 ⟨rfl, q0⟩
  subst q0
  go_wp2
  go_region_with (go_at_call 50; refine HL.out.mono ?_; rintro e w1 ⟨rfl, h1, hF1⟩)
  all_goals
    have hF1K : Fr K w0 w1 := (hFd.mono (G := K) (fun _ _ e => e.elim)).trans hF1 (fun j e => .inl (H.out.kk j (by rcases e with e | e <;> simp [e])))
    have o1 := HO.out.fr hF1K hob
    have f6 := o1.free 6
    have d6 := o1.cells.2.2.2.2.2.2.1
    have H1 := hide2 h1
    have O1 := hide2 o1
    have hlt1 := o1.lt
    clear h1 o1
    go_wp2
    go_step3
    refine And.intro rfl ?_
    go_wp2
    rw [noGoto_normal]
    go_end0
    exact ⟨rfl, H1.out.keep (Fr.setCell (p := ⟨ob, 6, none⟩) (Fr.refl (fun j => j = ob) w1) (.inl rfl) _) (fun j hj e => hob (e ▸ hj)) (fun e => HO.out.zero H.out.tab e.symm), O1.out.setSt 0, Fr.setCell (p := ⟨ob, 6, none⟩) (hF1K.mono (G := fun j => K j ∨ j = ob) (fun _ _ e => .inl e)) (.inl (.inr rfl)) _⟩
end
end Go.Proofs.YtbpihkojmbfccaaDoor
