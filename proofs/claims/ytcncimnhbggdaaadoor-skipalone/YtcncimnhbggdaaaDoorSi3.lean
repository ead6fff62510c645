/-
  SkipNone.
-/
import Derived.Test.YtcncimnhbggdaaaDoorSi2
set_option linter.unusedVariables false
set_option linter.unusedSimpArgs false
namespace Go.Proofs.YtcncimnhbggdaaaDoor
open Go.RowKit Go.Maps

section
variable {w : World} {ob : Nat} {cv : Value} {o : Opm}
set_option maxHeartbeats 1000000 in
theorem keys_nil (w : World) : Calls Tryd.prog 22 #[.pointer none] w fun e w' => e = .returned (.slice none 0 0) ∧ w' = w := by
  have HN := hide2 (isNone_nil w)
  go_enter Tryd.func22, Tryd.ntmps22
  go_wp2_with fail
  refine HN.out.mono ?_
  rintro e w0 ⟨rfl, q0⟩
  subst q0
  go_wp2
  go_ret
  exact ⟨rfl, rfl⟩
theorem step_nilop (h : Om w ob (.pointer none) cv o) (hst : o.st = 0) : Calls Tryd.prog 20 #[.pointer (some ⟨ob, 0, none⟩)] w fun e w' => e = .returned (.bool true) ∧ Om w' ob (.pointer none) cv { o with code := 1, st := 5 } ∧ Fr (fun j => j = ob) w w' := by
  have c21 := h.cells.2.2.2.2.1
  rw [hst] at c21
  refine (step_refuse (R := fun w' st => st = 5 ∧ Om w' ob (.pointer none) cv { o with code := 1, st := 5 } ∧ Fr (fun j => j = ob) w w') c21 h.lt (fun u fu => (refuse_nil (h.fr fu (fun e => e))).mono ?_)).mono ?_
  · rintro e w' ⟨rfl, q1, q2⟩
    exact ⟨rfl, 5, q1.cells.2.2.2.2.1, rfl, q1, (fu.mono (fun _ _ e => e.elim)).trans q2 (fun j e => .inl e)⟩
  · rintro e w' ⟨st, rfl, rfl, q1, q2⟩
    exact ⟨rfl, q1, q2⟩
theorem ref_nilop (h : Om w ob (.pointer none) cv o) (h1 : o.st = 5) (h2 : o.fk = .empty) (h3 : o.nm = 0) (h4 : o.had = false) (h5 : o.code = 1) : Calls Tryd.prog 14 #[.pointer (some ⟨ob, 0, none⟩)] w fun e w' => e = .returned (.tuple #[.string .empty, .int .i64 0, .bool false, .int .i64 1]) ∧ Below w.heap.size w w' := by
  have := ref_done h h1 (by rw [h2]; decide)
  rw [h2, h3, h4, h5] at this
  exact this
theorem below_up {n : Nat} {w w1 w2 : World} (h : Below n w w1) (hn : n ≤ w1.heap.size) (k : Below w1.heap.size w1 w2) : Below n w w2 :=
  h.trans ⟨k.os, k.tape, k.output, k.size, fun j hj => k.block j (by omega)⟩

set_option maxRecDepth 100000 in
set_option maxHeartbeats 8000000 in
theorem skipNone_walk (k : ByteArray) (r : Int) (hT : Tab w) :
    Calls Tryd.prog 7 #[.string k, .int .i64 r] w fun e w' => e = .returned (.bool true) ∧ Below w.heap.size w w' := by
  have HS := hide2 (shown_any hT)
  clear hT
  go_enter Tryd.func7, Tryd.ntmps7
  go_wp2_with fail
  refine HS.out.mono ?_
  rintro e w1 ⟨rfl, hb1⟩
  have hs1 := hb1.size
  have HN := hide2 (new_nil w1)
  have HB1 := hide2 hb1
  clear HS hb1
  go_wp2_with fail
  refine HN.out.mono ?_
  rintro e w2 ⟨rfl, q2⟩
  subst q2
  have HI := hide2 (insert_raw (lp := .pointer none) (ref := r) (height := 1) (begin_nil w2 2 k))
  clear HN
  go_wp2_with fail
  refine HI.out.mono ?_
  rintro e w3 ⟨rfl, ho3, hb3⟩
  have HL := hide2 (lookup_raw (lp := .pointer none) (.inl rfl) (begin_nil w3 0 k))
  have HO3 := hide2 ho3
  have hs3 := hb3.size
  have hlt3 := ho3.lt
  have HB3 := hide2 (below_up HB1.out hs1 hb3)
  clear HI ho3 hb3
  go_wp2_with fail
  refine HL.out.mono ?_
  rintro e w4 ⟨rfl, ho4, hb4⟩
  have HX := hide2 (next_raw (lp := .pointer none) (begin_nil w4 1 k))
  have HO34 := hide2 (HO3.out.same (hb4.block _ hlt3))
  have HO4 := hide2 ho4
  have hs4 := hb4.size
  have hlt4 := ho4.lt
  have HB4 := hide2 (below_up HB3.out (by omega) hb4)
  clear HL ho4 hb4 HO3
  go_wp2_with fail
  refine HX.out.mono ?_
  rintro e w5 ⟨rfl, ho5, hb5⟩
  have oa := HO34.out.same (hb5.block _ (by omega))
  have ob := HO4.out.same (hb5.block _ hlt4)
  have hs5 := hb5.size
  have hlt5 := ho5.lt
  have HB5 := hide2 (below_up HB4.out (by omega) hb5)
  have HP := hide2 (step_nilop oa rfl)
  have HOb := hide2 ob
  have HOc := hide2 ho5
  clear HX ho5 hb5 oa ob HO34 HO4
  go_wp2_with fail
  refine HP.out.mono ?_
  rintro e w6 ⟨rfl, oa, hF6⟩
  have ob := HOb.out.fr hF6 (by omega)
  have oc := HOc.out.fr hF6 (by omega)
  have hs6 := hF6.size
  have HB6 := hide2 (HB5.out.trans (hF6.to (fun j hj e => by omega) (by omega)))
  have HQ := hide2 (step_nilop ob rfl)
  have HOa := hide2 oa
  have HOc2 := hide2 oc
  clear HP oa ob oc hF6 HOb HOc
  go_wp2_with fail
  refine HQ.out.mono ?_
  rintro e w7 ⟨rfl, ob, hF7⟩
  have oa := HOa.out.fr hF7 (by omega)
  have oc := HOc2.out.fr hF7 (by omega)
  have hs7 := hF7.size
  have HB7 := hide2 (HB6.out.trans (hF7.to (fun j hj e => by omega) (by omega)))
  have HR := hide2 (step_nilop oc rfl)
  have HOa2 := hide2 oa
  have HOb2 := hide2 ob
  clear HQ oa ob oc hF7 HOa HOc2
  go_wp2_with fail
  refine HR.out.mono ?_
  rintro e w8 ⟨rfl, oc, hF8⟩
  have oa := HOa2.out.fr hF8 (by omega)
  have ob := HOb2.out.fr hF8 (by omega)
  have hs8 := hF8.size
  have HB8 := hide2 (HB7.out.trans (hF8.to (fun j hj e => by omega) (by omega)))
  have HZ := hide2 (ostep_nil w8)
  have HOa3 := hide2 oa
  have HOb3 := hide2 ob
  have HOc3 := hide2 oc
  clear HR oa ob oc hF8 HOa2 HOb2
  go_wp2_with fail
  refine HZ.out.mono ?_
  rintro e w9 ⟨rfl, q9⟩
  subst q9
  have HRa := hide2 (ref_nilop HOa3.out rfl rfl rfl rfl rfl)
  clear HZ
  go_wp2_with fail
  refine HRa.out.mono ?_
  rintro e w10 ⟨rfl, hb10⟩
  have ob := HOb3.out.same (hb10.block _ HOb3.out.lt)
  have oc := HOc3.out.same (hb10.block _ HOc3.out.lt)
  have HRb := hide2 (ref_nilop ob rfl rfl rfl rfl rfl)
  have hs10 := hb10.size
  have HB10 := hide2 (below_up HB8.out (by omega) hb10)
  have HOc4 := hide2 oc
  clear HRa ob oc hb10
  go_wp2_with fail
  refine HRb.out.mono ?_
  rintro e w11 ⟨rfl, hb11⟩
  have oc := HOc4.out.same (hb11.block _ HOc4.out.lt)
  have HRc := hide2 (ref_nilop oc rfl rfl rfl rfl rfl)
  have hs11 := hb11.size
  have HB11 := hide2 (below_up HB10.out (by omega) hb11)
  clear HRb oc hb11
  go_wp2_with fail
  refine HRc.out.mono ?_
  rintro e w12 ⟨rfl, hb12⟩
  have hs12 := hb12.size
  have HB12 := hide2 (below_up HB11.out (by omega) hb12)
  have HRn := hide2 (ref_nil w12)
  clear HRc hb12
  go_wp2_with fail
  refine HRn.out.mono ?_
  rintro e w13 ⟨rfl, q13⟩
  subst q13
  have HKY := hide2 (keys_nil w13)
  clear HRn
  go_wp2_with fail
  refine HKY.out.mono ?_
  rintro e w14 ⟨rfl, q14⟩
  subst q14
  go_wp2
  go_ret
  exact ⟨rfl, HB12.out⟩
end
end Go.Proofs.YtcncimnhbggdaaaDoor
