/-
  XmN: ModelAborts, walked.
-/
import Derived.Test.YtheidhkmmihjlaaXmM
set_option linter.unusedVariables false
set_option linter.unusedSimpArgs false
namespace Go.Proofs.Ytheidhkmmihjlaa
open Go.RowKit Go.Shelf Go.Maps
open ML (Ro RS Srt nless)
attribute [local go_sem] Oper.semAt_some
theorem stp_abort (S : Ms) (h : S.ws.isSome = true) : stp S ⟨8, 0, z0, z0, z0, 0, 0⟩ = (⟨S.L, S.t, none⟩, {}) := by
  have h2 : S.ws.isNone = false := by cases hw : S.ws with | none => rw [hw] at h; cases h | some _ => rfl
  simp [stp, wrg, fst0, ans, h2]
theorem stp_none8 (S : Ms) (h : S.ws.isSome = false) : stp S ⟨8, 0, z0, z0, z0, 0, 0⟩ = (S, { code := 152 }) := by
  have h2 : S.ws.isNone = true := by cases hw : S.ws with | none => rfl | some _ => rw [hw] at h; cases h
  simp [stp, wrg, fst0, ans, h2]
theorem stp_none2 (S : Ms) (h : S.ws.isSome = false) : stp S ⟨2, 0, bA, z0, z0, 0, 0⟩ = (S, { code := 152 }) := by
  have h2 : S.ws.isNone = true := by cases hw : S.ws with | none => rfl | some _ => rw [hw] at h; cases h
  simp [stp, wrg, fst0, ans, h2]
section
set_option maxHeartbeats 4000000
set_option maxRecDepth 100000
variable {W : World} {o0 o1 : Option Addr} {l0 c0 l1 c1 : Nat} {L : List Ro} {l : List Cl}
theorem aborts_walk (h0 : RS W o0 l0 c0 L) (hn : o0 = none → c0 = 0) (hl : l0 + 64 ≤ big) (h1 : CS W o1 l1 c1 l) :
    Calls Try.prog 4 #[.slice o0 l0 c0, .slice o1 l1 c1] W fun e w' => e = .returned (.bool true) ∧ Below W.heap.size W w' := by
  obtain rfl := h0.1
  have HR : Hid (∀ u, Below W.heap.size W u → RS u o0 L.length c0 L) := xhide (fun u hb => h0.below hb (fun b off e hlt => hlt))
  have HCS := xhide h1
  have HSH := xhide (shown18 W)
  clear h0 h1
  go_enter Try.func4, Try.ntmps4
  go_wp2_with fail
  refine HSH.out.mono ?_
  rintro e w1 ⟨rfl, hb1⟩
  have HRN := xhide (rnew_any (HR.out w1 hb1) hn (by omega))
  have HB1 := xhide hb1
  clear hb1 HSH
  go_wp2_with fail
  refine HRN.out.mono ?_
  rintro e w2 ⟨hb2, hre⟩
  have hB2 := HB1.out.trans (hb2.mono HB1.out.size)
  have HBG := xhide (begun_any (HR.out w2 hB2) hl)
  have HB2 := xhide hB2
  clear hb2 hB2 HRN HB1
  cases hok : okTo L L.length with
  | false =>
    obtain rfl : e = .returned (.tuple #[.pointer none, .int .i64 180]) := by
      rcases hre with ⟨_, rfl⟩ | ⟨q, _⟩
      · rfl
      · rw [hok] at q; cases q
    clear hre
    go_wp2_with fail
    refine HBG.out.mono ?_
    rintro e w3 ⟨hb3, ⟨_, rfl⟩ | ⟨q, _⟩⟩
    · have FIN := xhide (HB2.out.trans (hb3.mono HB2.out.size))
      clear hb3 HBG HB2
      go_wp2
      go_ret
      exact ⟨rfl, FIN.out⟩
    · rw [hok] at q; cases q
  | true =>
    obtain rfl : e = .returned (.tuple #[ptr w1.heap.size, .int .i64 0]) := by
      rcases hre with ⟨q, _⟩ | ⟨_, _, rfl, _⟩
      · rw [hok] at q; cases q
      · rfl
    clear hre
    go_wp2_with fail
    refine HBG.out.mono ?_
    rintro e w3 ⟨hb3, ⟨q, _⟩ | ⟨_, X, rfl, hm3⟩⟩
    · rw [hok] at q; cases q
    have hB3 := HB2.out.trans (hb3.mono HB2.out.size)
    have HPL := xhide (plays_any (l := l) hm3 rfl (by show L.length + 64 ≤ big; omega) HCS.out (W := W) hB3 HB2.out.size)
    have HB3 := xhide hB3
    have hw2 := HB2.out.size
    clear hm3 hb3 hB3 HBG HB2
    go_wp2_with fail
    refine HPL.out.mono ?_
    rintro e w4 ⟨S', rfl, hm4, hb4, hL4, ht4⟩
    have HB4 := xhide (HB3.out.trans (hb4.mono hw2))
    have HL4 : Hid (S'.L = L) := xhide hL4
    have hLb : S'.L.length + 64 ≤ big := by rw [hL4]; show L.length + 64 ≤ big; omega
    have HRW := xhide (mo_rows hm4 (by omega))
    clear hb4 ht4 HPL HB3 hL4
    go_wp2_with fail
    refine HRW.out.mono ?_
    rintro e w5 ⟨ao5, cp5, rfl, hrs5, _, hm5, hb5⟩
    rw [HL4.out] at hrs5
    have HB5 := xhide (HB4.out.trans (hb5.mono HB4.out.size))
    have HSR := xhide (ML.sameRows_any (l := L) hrs5 (HR.out w5 HB5.out))
    have HM5 := xhide hm5
    clear hrs5 hm5 hb5 HRW HB4
    rw [HL4.out]
    go_wp2_with fail
    refine HSR.out.mono ?_
    rintro e w6 ⟨rfl, q6, rfl⟩
    have HM6 := xhide (HM5.out.below (w' := w5.drewN q6) ⟨rfl, rfl, rfl, Nat.le_refl _, fun _ _ => rfl⟩)
    have HB6 : Hid (Below W.heap.size W (w5.drewN q6)) := xhide (xdrew HB5.out _)
    clear HSR HM5 HB5
    generalize w5.drewN q6 = w6 at *
    cases hst : S'.ws.isSome with
    | true =>
      go_wp2_with fail
      refine (mo_code HM6.out hLb ⟨8, 0, z0, z0, z0, 0, 0⟩).mono ?_
      rintro e w7 ⟨he, hm7, hb7, _⟩
      rw [stp_abort S' hst] at he hm7
      simp only [] at he
      subst he
      have HB7 := xhide (HB6.out.trans (hb7.mono hw2))
      have HM7 := xhide hm7
      clear hm7 hb7 HM6 HB6
      go_wp2_with fail
      refine (mo_rows HM7.out (by show S'.L.length ≤ big; omega)).mono ?_
      rintro e w8 ⟨ao8, cp8, he, hrs8, _, hm8, hb8⟩
      try simp only [] at he hrs8
      rw [HL4.out] at he hrs8
      subst he
      have HB8 := xhide (HB7.out.trans (hb8.mono HB7.out.size))
      have HSR := xhide (ML.sameRows_any (l := L) hrs8 (HR.out w8 HB8.out))
      have HM8 := xhide hm8
      clear hrs8 hm8 hb8 HB7 HM7
      go_wp2_with fail
      refine HSR.out.mono ?_
      rintro e w9 ⟨rfl, q9, rfl⟩
      have HM9 := xhide (HM8.out.below (w' := w8.drewN q9) ⟨rfl, rfl, rfl, Nat.le_refl _, fun _ _ => rfl⟩)
      have HB9 : Hid (Below W.heap.size W (w8.drewN q9)) := xhide (xdrew HB8.out _)
      clear HSR HM8 HB8
      generalize w8.drewN q9 = w9 at *
      go_wp2_with fail
      refine (mo_code HM9.out (by show S'.L.length + 64 ≤ big; exact hLb) ⟨2, 0, bA, z0, z0, 0, 0⟩).mono ?_
      rintro e wa ⟨he, hma, hba, _⟩
      rw [stp_none2 _ rfl] at he
      simp only [] at he
      subst he
      have FIN := xhide (HB9.out.trans (hba.mono hw2))
      clear hma hba HM9 HB9
      go_wp2
      go_ret
      exact ⟨rfl, FIN.out⟩
    | false =>
      go_wp2_with fail
      refine (mo_code HM6.out hLb ⟨8, 0, z0, z0, z0, 0, 0⟩).mono ?_
      rintro e w7 ⟨he, hm7, hb7, _⟩
      rw [stp_none8 S' hst] at he hm7
      simp only [] at he
      subst he
      have HB7 := xhide (HB6.out.trans (hb7.mono hw2))
      have HM7 := xhide hm7
      clear hm7 hb7 HM6 HB6
      go_wp2_with fail
      refine (mo_rows HM7.out (by show S'.L.length ≤ big; omega)).mono ?_
      rintro e w8 ⟨ao8, cp8, he, hrs8, _, hm8, hb8⟩
      try simp only [] at he hrs8
      rw [HL4.out] at he hrs8
      subst he
      have HB8 := xhide (HB7.out.trans (hb8.mono HB7.out.size))
      have HSR := xhide (ML.sameRows_any (l := L) hrs8 (HR.out w8 HB8.out))
      have HM8 := xhide hm8
      clear hrs8 hm8 hb8 HB7 HM7
      go_wp2_with fail
      refine HSR.out.mono ?_
      rintro e w9 ⟨rfl, q9, rfl⟩
      have HM9 := xhide (HM8.out.below (w' := w8.drewN q9) ⟨rfl, rfl, rfl, Nat.le_refl _, fun _ _ => rfl⟩)
      have HB9 : Hid (Below W.heap.size W (w8.drewN q9)) := xhide (xdrew HB8.out _)
      clear HSR HM8 HB8
      generalize w8.drewN q9 = w9 at *
      go_wp2_with fail
      refine (mo_code HM9.out (by show S'.L.length + 64 ≤ big; exact hLb) ⟨2, 0, bA, z0, z0, 0, 0⟩).mono ?_
      rintro e wa ⟨he, hma, hba, _⟩
      rw [stp_none2 _ hst] at he
      simp only [] at he
      subst he
      have FIN := xhide (HB9.out.trans (hba.mono hw2))
      clear hma hba HM9 HB9
      go_wp2
      go_ret
      exact ⟨rfl, FIN.out⟩
end
end Go.Proofs.Ytheidhkmmihjlaa
