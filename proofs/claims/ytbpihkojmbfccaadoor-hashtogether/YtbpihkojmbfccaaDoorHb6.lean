/-
  HashNone, HashBuckets.
-/
import Derived.Test.YtbpihkojmbfccaaDoorHb5
set_option linter.unusedVariables false
set_option linter.unusedSimpArgs false
namespace Go.Proofs.YtbpihkojmbfccaaDoor
open Go.RowKit Go.Maps

section
variable {w : World}
set_option maxRecDepth 100000 in
set_option maxHeartbeats 4000000 in
theorem hashNone_walk (k : ByteArray) (b : Int) (hT : Tab w) :
    Calls Tryd.prog 7 #[.string k, .int .i64 b] w fun e w' => e = .returned (.bool true) ∧ Below w.heap.size w w' := by
  have HS := hide2 (hshown_any hT)
  clear hT
  go_enter Tryd.func7, Tryd.ntmps7
  go_wp2_with fail
  refine HS.out.mono ?_
  rintro e w1 ⟨rfl, hb1⟩
  have HN := hide2 (hnew_nil w1 b)
  clear HS
  go_wp2_with fail
  refine HN.out.mono ?_
  rintro e w2 ⟨rfl, q2⟩
  subst q2
  have HI := hide2 (Insert_of (tv := .pointer none) 1 (begin_nil w2 k))
  clear HN
  go_wp2_with fail
  refine HI.out.mono ?_
  rintro e w3 ⟨rfl, ho3, hb3⟩
  have HL := hide2 (Lookup_of (tv := .pointer none) (begin_nil w3 k))
  have hne : w2.heap.size ≠ w3.heap.size := by have := ho3.lt; omega
  have HO3 := hide2 ho3
  have HB3 := hide2 hb3
  have hs3 := hb3.size
  have hlt3 := ho3.lt
  clear HI ho3 hb3
  go_wp2_with fail
  refine HL.out.mono ?_
  rintro e w4 ⟨rfl, ho4, hb4⟩
  have o4 := HO3.out.same (hb4.block _ hlt3)
  have HP := hide2 (step_none o4 rfl)
  have HO4 := hide2 ho4
  have HB4 := hide2 hb4
  have hs4 := hb4.size
  clear HL ho4 hb4 o4
  go_wp2_with fail
  refine HP.out.mono ?_
  rintro e w5 ⟨rfl, o5, hF5⟩
  have p5 := HO4.out.fr hF5 (Ne.symm hne)
  have HQ := hide2 (step_none p5 rfl)
  have HO5 := hide2 o5
  have HF5 := hide2 hF5
  have hs5 := hF5.size
  clear HP o5 hF5 p5
  go_wp2_with fail
  refine HQ.out.mono ?_
  rintro e w6 ⟨rfl, p6, hF6⟩
  have o6 := HO5.out.fr hF6 hne
  have HR := hide2 (step_nilop w6)
  have HO6 := hide2 o6
  have HP6 := hide2 p6
  have HF6 := hide2 hF6
  clear HQ p6 o6 hF6
  go_wp2_with fail
  refine HR.out.mono ?_
  rintro e w7 ⟨rfl, q7⟩
  subst q7
  have HX := hide2 (ref_any HO6.out rfl)
  clear HR
  go_wp2_with fail
  refine HX.out.mono ?_
  rintro e w8 ⟨rfl, q8, hw8⟩
  have p8 : Om w8 w3.heap.size (.pointer none) (o0.ans 0 false 1) := HP6.out.same (by rw [hw8]; rfl)
  have HY := hide2 (ref_any p8 rfl)
  have HW8 := hide2 hw8
  clear HX p8 hw8
  go_wp2_with fail
  refine HY.out.mono ?_
  rintro e w9 ⟨rfl, q9, hw9⟩
  have HZ := hide2 (ref_nil w9)
  have HW9 := hide2 hw9
  clear HY hw9
  go_wp2_with fail
  refine HZ.out.mono ?_
  rintro e w10 ⟨rfl, q10⟩
  subst q10
  have HBK := hide2 (bucket_nil w10 k)
  have HKY := hide2 (keys_nil w10)
  clear HZ
  go_wp2_with fail
  refine HBK.out.mono ?_
  rintro e w11 ⟨rfl, q11⟩
  subst q11
  go_wp2_with fail
  refine HKY.out.mono ?_
  rintro e w12 ⟨rfl, q12⟩
  subst q12
  go_wp2
  go_ret
  have hb23 : Below w.heap.size w w3 := hb1.trans ⟨HB3.out.os, HB3.out.tape, HB3.out.output, HB3.out.size, fun j hj => HB3.out.block j (by have := hb1.size; omega)⟩
  have hb34 : Below w.heap.size w w4 := hb23.trans ⟨HB4.out.os, HB4.out.tape, HB4.out.output, HB4.out.size, fun j hj => HB4.out.block j (by have := hb23.size; omega)⟩
  have hb6 : Below w.heap.size w w7 := (hb34.trans (HF5.out.to (fun j hj e => by have := hb1.size; omega) hb34.size)).trans (HF6.out.to (fun j hj e => by have := hb1.size; omega) (by have := hb34.size; omega))
  refine ⟨rfl, hb6.trans ?_⟩
  rw [HW9.out, HW8.out]
  exact (below_drewN _ _ _).trans (below_drewN _ _ _)

theorem isKey_any (k : ByteArray) (hk : k.size ≤ maxLen) (w : World) : Calls Tryd.prog 15 #[.string k] w fun e w' => e = .returned (.bool (good k)) ∧ w' = w := by
  unfold good
  unfold maxLen at hk
  by_cases h1 : 1 ≤ k.size
  · by_cases h2 : k.size ≤ 16
    · have d1 : decide ((1 : Int) ≤ (k.size : Int)) = true := by simp; omega
      have d2 : decide ((k.size : Int) ≤ 16) = true := by simp; omega
      have e : (decide (1 ≤ k.size) && decide (k.size ≤ 16)) = true := by simp; omega
      rw [e]
      go_enter Tryd.func15, Tryd.ntmps15
      go_wp2
      go_ret
      exact ⟨rfl, rfl⟩
    · have d1 : decide ((1 : Int) ≤ (k.size : Int)) = true := by simp; omega
      have d2 : decide ((k.size : Int) ≤ 16) = false := by simp; omega
      have e : (decide (1 ≤ k.size) && decide (k.size ≤ 16)) = false := by simp; omega
      rw [e]
      go_enter Tryd.func15, Tryd.ntmps15
      go_wp2
      go_ret
      exact ⟨rfl, rfl⟩
  · have d1 : decide ((1 : Int) ≤ (k.size : Int)) = false := by simp; omega
    have e : (decide (1 ≤ k.size) && decide (k.size ≤ 16)) = false := by simp; omega
    rw [e]
    go_enter Tryd.func15, Tryd.ntmps15
    go_wp2
    go_ret
    exact ⟨rfl, rfl⟩

set_option maxRecDepth 100000 in
set_option maxHeartbeats 4000000 in
theorem hashBuckets_walk (b : Int) (k : ByteArray) (hk : k.size ≤ maxLen) (hT : Tab w) :
    Calls Tryd.prog 6 #[.int .i64 b, .string k] w fun e w' => e = .returned (.bool true) ∧ Below w.heap.size w w' := by
  have HS := hide2 (hshown_any hT)
  have HT0 := hide2 hT
  have hw0 := hT.1
  clear hT
  by_cases hb : b < 1 ∨ 256 < b
  · go_enter Tryd.func6, Tryd.ntmps6
    go_wp2_with fail
    refine HS.out.mono ?_
    rintro e w1 ⟨rfl, hb1⟩
    have HM := hide2 (made_arena (HT0.out.below hb1 hw0) 400 b (by decide) (by decide) (by omega))
    clear HS
    have HB1 := hide2 hb1
    have hs1 := hb1.size
    go_wp2_with fail
    refine HM.out.mono ?_
    rintro e w2 ⟨d, g, T, N, m, F, rfl, -, -, hb2⟩
    clear HM
    have hbb : Below w.heap.size w w2 := HB1.out.trans ⟨hb2.os, hb2.tape, hb2.output, hb2.size, fun j hj => hb2.block j (by omega)⟩
    rcases Decidable.em (b < 1) with hlt | hlt
    · clear hb
      have d1 : decide (b < 1) = true := decide_eq_true hlt
      go_wp2
      go_ret
      exact ⟨rfl, hbb⟩
    · have d1 : decide (b < 1) = false := decide_eq_false hlt
      have d2 : decide (256 < b) = true := decide_eq_true (by omega)
      clear hb
      go_wp2
      go_ret
      exact ⟨rfl, hbb⟩
  · obtain ⟨n, rfl⟩ : ∃ n : Nat, b = (n : Int) := ⟨b.toNat, by omega⟩
    have hn : 1 ≤ n ∧ n ≤ 256 := by omega
    clear hb
    cases hg : good k with
    | false =>
      go_enter Tryd.func6, Tryd.ntmps6
      go_wp2_with fail
      refine HS.out.mono ?_
      rintro e w1 ⟨rfl, hb1⟩
      have HM := hide2 (made_ok (HT0.out.below hb1 hw0) 400 n (by decide) (by decide) hn.1 hn.2 (by omega))
      clear HS
      have HB1 := hide2 hb1
      have hs1 := hb1.size
      go_wp2_with fail
      refine HM.out.mono ?_
      rintro e w2 ⟨d, tb, K, rfl, h2, hK, hb2⟩
      clear HM
      have hbb : Below w.heap.size w w2 := HB1.out.trans ⟨hb2.os, hb2.tape, hb2.output, hb2.size, fun j hj => hb2.block j (by omega)⟩
      obtain ⟨g, hb, hc, mb, sv, D, T, N, m, F, hH, hV, r⟩ := h2
      have HBK := hide2 (bucket_bad hH.tk hV.n1.1 k hk hg)
      have hik := isKey_any k hk w2
      rw [hg] at hik
      have HIK := hide2 hik
      clear hH hV r hb2 hik
      go_wp2_with fail
      refine HBK.out.mono ?_
      rintro e w3 ⟨rfl, q3⟩
      subst q3
      go_wp2_with fail
      refine HIK.out.mono ?_
      rintro e w3 ⟨rfl, q3⟩
      subst q3
      go_wp2
      go_ret
      exact ⟨rfl, hbb⟩
    | true =>
      have hks := good_size hg
      go_enter Tryd.func6, Tryd.ntmps6
      go_wp2_with fail
      refine HS.out.mono ?_
      rintro e w1 ⟨rfl, hb1⟩
      have HM := hide2 (made_ok (HT0.out.below hb1 hw0) 400 n (by decide) (by decide) hn.1 hn.2 (by omega))
      clear HS
      have HB1 := hide2 hb1
      have hs1 := hb1.size
      go_wp2_with fail
      refine HM.out.mono ?_
      rintro e w2 ⟨d, tb, K, rfl, h2, hK, hb2⟩
      clear HM
      have hbb : Below w.heap.size w w2 := HB1.out.trans ⟨hb2.os, hb2.tape, hb2.output, hb2.size, fun j hj => hb2.block j (by omega)⟩
      obtain ⟨g, hb, hc, mb, sv, D, T, N, m, F, hH, hV, r⟩ := h2
      have hlen : (s0 n).hd.length = n := by simp [s0]
      have hbk := bucket_any hH.tk hV.n1 k hg
      rw [hlen] at hbk
      have HBK := hide2 hbk
      have hs2 := hbb.size
      clear hH hV r hb2 hbk
      go_wp2_with fail
      refine HBK.out.mono ?_
      rintro e w3 ⟨rfl, hb3⟩
      have hbb3 : Below w.heap.size w w3 := hbb.trans ⟨hb3.os, hb3.tape, hb3.output, hb3.size, fun j hj => hb3.block j (by omega)⟩
      have hik := isKey_any k hk w3
      rw [hg] at hik
      have HIK := hide2 hik
      clear HBK hik hb3
      go_wp2_with fail
      refine HIK.out.mono ?_
      rintro e w4 ⟨rfl, q4⟩
      subst q4
      obtain ⟨cp, u', hconv, hsl, hbu, hsz⟩ := conv_any w4 k hks.2
      have hcrc := refCrc_any _ _ _ _ u' hsl
      have HC := hide2 hcrc
      have hcl := crc_lt (kb k) (kb_byt k)
      have hs4 := hbb3.size
      have hbu2 : Below w.heap.size w u' := hbb3.trans ⟨hbu.os, hbu.tape, hbu.output, hbu.size, fun j hj => hbu.block j (by omega)⟩
      have hBK : Hid (bkt n k = crc (kb k) % n) := hide2 rfl
      generalize hcc : crc (kb k) = C at *
      generalize hbx : bkt n k = R at *
      have hR : R < 4294967296 := by rw [hBK.out]; exact Nat.lt_of_le_of_lt (Nat.mod_le _ _) hcl
      have e1 : IntKind.u32.wrap (n : Int) = (n : Int) := by rw [IntKind.wrap_u32]; omega
      have e2 : ¬ n = 0 := by omega
      have e4 : (C : Int).tmod (n : Int) = (R : Int) := by rw [hBK.out]; exact Int.ofNat_tmod C n
      have e5 : IntKind.i64.wrap (R : Int) = (R : Int) := by rw [IntKind.wrap_i64]; omega
      clear HIK hsl hcrc hbu hcc hbx hsz
      go_wp2_with fail
      refine HC.out.mono ?_
      rintro e w5 ⟨rfl, q5⟩
      subst q5
      go_wp2
      go_ret
      exact ⟨rfl, hbu2⟩
end
end Go.Proofs.YtbpihkojmbfccaaDoor
