/-
  put: an operation puts its key in, or comes too late.
-/
import Derived.Test.YtbpihkojmbfccaaDoorHa5
set_option linter.unusedVariables false
set_option linter.unusedSimpArgs false
namespace Go.Proofs.YtbpihkojmbfccaaDoor
open Go.RowKit Go.Maps

section
variable {w w' : World} {K : Nat → Prop} {tb d g hb hc mb : Nat} {sv : Value} {D : DataW Value} {T : List Bool} {N : List Int} {m : Int} {F : List Nat} {s : Tb} {ob : Nat} {o : Opm}

set_option maxRecDepth 100000 in
set_option maxHeartbeats 4000000 in
/-- put, with a cell of its own: the key is put in. -/
theorem put_link (h : Hm w K tb d g hb hc mb sv D T N m F s) (ho : Om w ob (tp tb) o) (hob : ¬ K ob) {c : Nat} (hcell : o.cell = some c) (hcs : c ∈ s.sp) (hcl : c ≤ 65535) (hp : T.getD o.pl false = true) (hv : N.getD o.pl 0 = 0) {b : Nat} (hb2 : b < s.ch.length) (hne : ∀ x ∈ s.all, x.c ≠ c) (hal : s.all.length ≤ 1000000) (hl2 : s.sp.length ≤ 1000000) (hm : 0 ≤ m ∧ m < 4611686018427387904) :
    Calls Tryd.prog 36 #[.pointer (some ⟨ob, 0, none⟩)] w fun e w' => e = .returned (.tuple #[]) ∧ (∃ sv' D', Hm w' K tb d g hb hc mb sv' D' T (N.set o.pl ((c : Int) + 1)) (m + 1) F (s.linked b ⟨c, o.k, o.r⟩)) ∧ Om w' ob (tp tb) (o.ans o.r false 0) ∧ Fr (fun j => K j ∨ j = ob) w w' := by
  obtain ⟨c0, c1, c2, c3, c4, c5, c6, c7, c8, c9⟩ := ho.cells
  have hs := h.isSpare (c : Int)
  have e1 : (s.sp.map fun c : Nat => (c : Int)).contains (c : Int) = true := by
    rw [List.contains_iff_mem]
    exact List.mem_map.2 ⟨c, hcs, rfl⟩
  rw [e1] at hs
  rw [hcell] at c8
  have c8' : w.cell? ⟨ob, 8, none⟩ = some (.int .i64 (c : Int)) := c8
  have HS := hide2 hs
  have hFd : Fr (fun _ => False) w w.drew := (Fr.refl _ w).drew
  have hd := h.keep hFd (fun _ _ e => e) (fun e => e)
  have HL := hide2 (hd.link_yes (p := o.pl) (b := b) (c := c) (k := o.k) (r := o.r) hp hv hb2 hcs (by omega) hne hal hl2 hm)
  have H := hide2 h
  have HO := hide2 ho
  have hlt := ho.lt
  clear hs h ho hd e1 hcell c8 c1 c4 c5 c6 c9 hv
  go_enter Tryd.func36, Tryd.ntmps36
  refine scope_ahead 0 rfl ?_
  go_wp2_with fail
  refine HS.out.mono ?_
  rintro e w0 ⟨rfl, q0⟩
  subst q0
  go_wp2
  go_region_with (go_at_call 50; refine HL.out.mono ?_; rintro e w1 ⟨rfl, sv', D', h1, hF1⟩)
  all_goals
    have hF1K : Fr K w0 w1 := (hFd.mono (G := K) (fun _ _ e => e.elim)).trans hF1 (fun j e => .inl e)
    have o1 := HO.out.fr hF1K hob
    have d3 := o1.cells.2.2.2.1
    have HA := hide2 (answer_any o1 o.r false 0)
    have H1 := hide2 h1
    have hlt1 := o1.lt
    clear h1 o1
    go_wp2_with fail
    refine HA.out.mono ?_
    rintro e w2 ⟨rfl, o2, hF2⟩
    clear HA
    go_wp2
    rw [jump_ret]
    refine bodyPost_ret (results_none rfl _ _ _) rfl ?_
    exact ⟨rfl, ⟨sv', D', H1.out.keep hF2 (fun j hj e => hob (e ▸ hj)) (fun e => HO.out.zero H.out.tab e.symm)⟩, o2, (hF1K.mono (G := fun j => K j ∨ j = ob) (fun _ _ e => .inl e)).trans hF2 (fun j e => .inl (.inr e))⟩
end
end Go.Proofs.YtbpihkojmbfccaaDoor
