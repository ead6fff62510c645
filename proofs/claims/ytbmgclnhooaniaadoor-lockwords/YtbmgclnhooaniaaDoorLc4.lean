/-
  Lc4: Readers and the writer come and go, and are told, as the document says (LockWords).
-/
import Derived.Test.YtbmgclnhooaniaaDoorLc3
set_option linter.unusedVariables false
set_option linter.unusedSimpArgs false
namespace Go.Proofs.YtbmgclnhooaniaaDoor
open Go.RowKit

section
set_option maxHeartbeats 4000000
set_option maxRecDepth 100000
theorem lockWords_walk {v me : Int} {wrt : Bool} {w : World} (hT : Tab w) (hv : 0 ≤ v ∧ v ≤ 18446744073709551615) :
    Calls Tryd.prog 3 #[.int .u64 v, .int .i64 me, .bool wrt] w fun e w' => e = .returned (.bool true) ∧ Below w.heap.size w w' := by
  obtain ⟨z, rfl⟩ : ∃ z : Nat, v = (z : Int) := ⟨v.toNat, by omega⟩
  have hlt : z < 18446744073709551616 := by omega
  have HT := hide2 hT
  have HS := hide2 (shown_any w)
  have H1 := hide2 (fun w => Read_any (me := me) hlt w)
  have H2 := hide2 (fun w => rRead_any (me := me) hlt w)
  have H3 := hide2 (fun w => Write_any (me := me) hlt w)
  have H4 := hide2 (fun w => rWrite_any (me := me) hlt w)
  have H5 := hide2 (fun w => Leave_any (me := me) hlt w)
  have H6 := hide2 (fun w => rLeave_any (me := me) hlt w)
  have H7 := hide2 (fun w hT => Writer_any hlt w hT)
  have H8 := hide2 (fun w => rWriter_any hlt w)
  have H9 := hide2 (fun w hT => Readers_any hlt w hT)
  have HA := hide2 (fun w => rReaders_any hlt w)
  have HB := hide2 (fun w hT => Against_any (me := me) (wr := wrt) hlt w hT)
  have HC := hide2 (fun w => rAgainst_any (me := me) (wrt := wrt) hlt w)
  unfold ans3 at H1 H2 H3 H4
  generalize rdV z me = R at *
  generalize wrV z me = S at *
  generalize lvV z me = L at *
  generalize wtV z = T at *
  generalize rsV z = l1 at *
  generalize agV z me wrt = l2 at *
  obtain ⟨r0, r1, r2⟩ := R
  obtain ⟨s0, s1, s2⟩ := S
  obtain ⟨p0, p1⟩ := L
  obtain ⟨t0, t1⟩ := T
  simp only at H1 H2 H3 H4 H5 H6 H7 H8
  clear hT hv hlt
  go_enter Tryd.func3, Tryd.ntmps3
  go_wp2_with fail
  refine HS.out.mono ?_
  rintro e w1 ⟨rfl, hw1⟩
  have B1 := hide2 hw1
  clear hw1 HS
  go_wp2_with fail
  refine (H1.out _).mono ?_
  rintro e w2 ⟨rfl, hw2⟩
  have B2 := hide2 (B1.out.trans (hw2.mono B1.out.size))
  clear hw2 B1 H1
  go_wp2_with fail
  refine (H2.out _).mono ?_
  rintro e w3 ⟨rfl, hw3⟩
  have B3 := hide2 (B2.out.trans (hw3.mono B2.out.size))
  clear hw3 B2 H2
  go_wp2_with fail
  refine (H3.out _).mono ?_
  rintro e w4 ⟨rfl, hw4⟩
  have B4 := hide2 (B3.out.trans (hw4.mono B3.out.size))
  clear hw4 B3 H3
  go_wp2_with fail
  refine (H4.out _).mono ?_
  rintro e w5 ⟨rfl, hw5⟩
  have B5 := hide2 (B4.out.trans (hw5.mono B4.out.size))
  clear hw5 B4 H4
  go_wp2_with fail
  refine (H5.out _).mono ?_
  rintro e w6 ⟨rfl, hw6⟩
  have B6 := hide2 (B5.out.trans (hw6.mono B5.out.size))
  clear hw6 B5 H5
  go_wp2_with fail
  refine (H6.out _).mono ?_
  rintro e w7 ⟨rfl, rfl⟩
  clear H6
  go_wp2_with fail
  refine (H7.out _ (HT.out.keep B6.out)).mono ?_
  rintro e w8 ⟨rfl, hw8⟩
  have B8 := hide2 (B6.out.trans (hw8.mono B6.out.size))
  clear hw8 B6 H7
  go_wp2_with fail
  refine (H8.out _).mono ?_
  rintro e w9 ⟨rfl, rfl⟩
  clear H8
  go_wp2_with fail
  refine (H9.out _ (HT.out.keep B8.out)).mono ?_
  rintro e w10 ⟨u, rfl, hu, hw10⟩
  have B10 := hide2 (B8.out.trans (hw10.mono B8.out.size))
  obtain ⟨ao, ca, rfl, hca⟩ := hu.form
  have HU := hide2 hu
  clear hw10 B8 H9 hu
  go_wp2_with fail
  refine (HA.out _).mono ?_
  rintro e w11 ⟨u, rfl, hu, hw11⟩
  have B11 := hide2 (B10.out.trans (hw11.mono B10.out.size))
  obtain ⟨bo, cb, rfl, hcb⟩ := hu.form
  have HI := hide2 (ints_same (HU.out.keep hw11).seq hu.seq)
  clear hw11 B10 HA hu HU
  go_wp2_with fail
  refine HI.out.mono ?_
  rintro e w12 ⟨rfl, q, rfl⟩
  have B12 := hide2 (below_drewN B11.out q)
  clear B11 HI
  generalize w11.drewN q = w12 at *
  go_wp2_with fail
  refine (HB.out _ (HT.out.keep B12.out)).mono ?_
  rintro e w13 ⟨u, rfl, hu, hw13⟩
  have B13 := hide2 (B12.out.trans (hw13.mono B12.out.size))
  obtain ⟨co, cc, rfl, hcc⟩ := hu.form
  have HU := hide2 hu
  clear hw13 B12 HB hu
  go_wp2_with fail
  refine (HC.out _).mono ?_
  rintro e w14 ⟨u, rfl, hu, hw14⟩
  have B14 := hide2 (B13.out.trans (hw14.mono B13.out.size))
  obtain ⟨eo, ce, rfl, hce⟩ := hu.form
  have HI := hide2 (ints_same (HU.out.keep hw14).seq hu.seq)
  clear hw14 B13 HC hu HU
  go_wp2_with fail
  refine HI.out.mono ?_
  rintro e w15 ⟨rfl, q2, rfl⟩
  have B15 := hide2 (below_drewN B14.out q2)
  clear B14 HI
  generalize w14.drewN q2 = w15 at *
  go_wp2
  go_ret
  exact ⟨rfl, B15.out⟩
end
end Go.Proofs.YtbmgclnhooaniaaDoor
