/-
  put: an operation puts its key in, or comes too late.
-/
import Derived.Test.YtbpihkojmbfccaaDoorHa5
set_option linter.unusedVariables false
set_option linter.unusedSimpArgs false
namespace Go.Proofs.YtbpihkojmbfccaaDoor
open Go.RowKit Go.Maps

section
variable {w w' : World} {K : Nat → Prop} {tb d g hb hc mb : Nat} {sv : Value} {D : DataW Value} {T : List Bool} {N : List Int} {m : Int} {F : List Nat} {s : Tb} {ob : Nat} {o : Opm}

set_option maxRecDepth 100000 in
set_option maxHeartbeats 4000000 in
/-- put, with a cell of its own: the key is put in. -/
theorem put_steal (h : Hm w K tb d g hb hc mb sv D T N m F s) (ho : Om w ob (tp tb) o) (hob : ¬ K ob) (hsp : o.spare s = false) (hf : T.count true = T.length) {c : Nat} {rest : List Nat} (hs0 : s.sp = c :: rest) (hcl : c ≤ 65535) (hp : T.getD o.pl false = true) (hv : N.getD o.pl 0 = 0) {b : Nat} (hb2 : b < s.ch.length) (hne : ∀ x ∈ s.all, x.c ≠ c) (hal : s.all.length ≤ 1000000) (hl2 : s.sp.length ≤ 1000000) (hm : 0 ≤ m ∧ m < 4611686018427387904) :
    Calls Tryd.prog 36 #[.pointer (some ⟨ob, 0, none⟩)] w fun e w' => e = .returned (.tuple #[]) ∧ (∃ sv' D', Hm w' K tb d g hb hc mb sv' D' T (N.set o.pl ((c : Int) + 1)) (m + 1) F (s.linked b ⟨c, o.k, o.r⟩)) ∧ Om w' ob (tp tb) ({ o with cell := none }.ans o.r false 0) ∧ Fr (fun j => K j ∨ j = ob) w w' := by
  obtain ⟨c0, c1, c2, c3, c4, c5, c6, c7, c8, c9⟩ := ho.cells
  have hs := h.isSpare (cellI o.cell)
  rw [spare_cell, hsp] at hs
  have HS := hide2 hs
  have HT := hide2 (h.take_full hf)
  have hcs : c ∈ s.sp := by rw [hs0]; simp
  have H := hide2 h
  have HO := hide2 ho
  have hlt := ho.lt
  have HS0 := hide2 hs0
  have hneg : ((c : Int) == -1) = false := by simp
  have hneg2 : ¬ (c : Int) = -1 := by omega
  have HV := hide2 hv
  clear hs h ho c1 c2 c3 c4 c5 c6 c7 c9 hs0 hv
  go_enter Tryd.func36, Tryd.ntmps36
  refine scope_ahead 0 rfl ?_
  go_wp2_with fail
  refine HS.out.mono ?_
  rintro e w0 ⟨rfl, q0⟩
  subst q0
  go_wp2_with fail
  refine HT.out.mono ?_
  rintro e wa ⟨rfl, q, hwa⟩
  have hFa : Fr (fun _ => False) w0 wa := by rw [hwa]; exact (Fr.refl _ w0).drewN q
  have oa := HO.out.fr hFa id
  have ha := H.out.keep hFa (fun _ _ e => e) (fun e => e)
  clear hwa
  obtain ⟨b0, b1, b2, b3, b4, b5, b6, b7, b8, b9⟩ := oa.cells
  have f8 := oa.free 8
  have hlta := oa.lt
  have ob1 := oa.setCell none
  have hFb : Fr (fun j => j = ob) wa (wa.setCell ⟨ob, 8, none⟩ (.int .i64 (-1))) := Fr.setCell (p := ⟨ob, 8, none⟩) (Fr.refl (fun j => j = ob) wa) (.inl rfl) _
  have hb1 := ha.keep hFb (fun j hj e => hob (e ▸ hj)) (fun e => HO.out.zero H.out.tab e.symm)
  have hS := hb1.anySpare
  rw [HS0.out] at hS
  have HA : Hid (Calls Tryd.prog 49 #[.pointer (some ⟨tb, 0, none⟩)] (wa.setCell ⟨ob, 8, none⟩ (.int .i64 (-1))) fun e w' => e = .returned (.int .i64 (c : Int)) ∧ w' = wa.setCell ⟨ob, 8, none⟩ (.int .i64 (-1))) := hide2 hS
  have HOb : Hid (Om (wa.setCell ⟨ob, 8, none⟩ (.int .i64 (-1))) ob (tp tb) { o with cell := none }) := hide2 ob1
  have HHb := hide2 hb1
  have HFb := hide2 hFb
  have HOa := hide2 oa
  clear HS HT ha oa ob1 hb1 hS hFb c0 c8 b0 b1 b2 b3 b4 b5 b6 b7 b9
  go_wp2_with fail
  refine HA.out.mono ?_
  rintro e wb ⟨rfl, qb⟩
  rw [← qb] at HOb HHb HFb
  clear HA qb
  have hFd : Fr (fun _ => False) wb wb.drew := (Fr.refl _ wb).drew
  have hd := HHb.out.keep hFd (fun _ _ e => e) (fun e => e)
  have HL := hide2 (hd.link_yes (p := o.pl) (b := b) (c := c) (k := o.k) (r := o.r) hp HV.out hb2 hcs (by omega) hne hal hl2 hm)
  have hFW : Fr (fun j => j = ob) w0 wb := (hFa.mono (G := fun j => j = ob) (fun _ _ e => e.elim)).trans HFb.out (fun j e => .inl e)
  obtain ⟨d0, d1, d2, d3, d4, d5, d6, d7, d8, d9⟩ := HOb.out.cells
  have hltb := HOb.out.lt
  clear hd f8 b8 d4 d5 d6 d8 d9
  go_wp2
  go_region_with (go_at_call 50; refine HL.out.mono ?_; rintro e w1 ⟨rfl, sv', D', h1, hF1⟩)
  all_goals
    have hF1K : Fr K wb w1 := (hFd.mono (G := K) (fun _ _ e => e.elim)).trans hF1 (fun j e => .inl e)
    have o1 := HOb.out.fr hF1K hob
    have d3 := o1.cells.2.2.2.1
    have HA := hide2 (answer_any o1 o.r false 0)
    have H1 := hide2 h1
    have hlt1 := o1.lt
    clear h1 o1
    go_wp2_with fail
    refine HA.out.mono ?_
    rintro e w2 ⟨rfl, o2, hF2⟩
    clear HA
    go_wp2
    rw [jump_ret]
    refine bodyPost_ret (results_none rfl _ _ _) rfl ?_
    exact ⟨rfl, ⟨sv', D', H1.out.keep hF2 (fun j hj e => hob (e ▸ hj)) (fun e => HO.out.zero H.out.tab e.symm)⟩, o2, ((hFW.mono (G := fun j => K j ∨ j = ob) (fun _ _ e => .inr e)).trans hF1K (fun j e => .inl (.inl e))).trans hF2 (fun j e => .inl (.inr e))⟩
end
end Go.Proofs.YtbpihkojmbfccaaDoor
