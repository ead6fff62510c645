/-
  The document's own disk: what Append refuses.
-/
import Derived.Test.YtolaagbdnchhiaaRD5
import Derived.BigQuiet
set_option linter.unusedVariables false
set_option linter.unusedSimpArgs false
namespace Go.Proofs.Ytolaagbdnchhiaa
open Go.RowKit Go.Maps

section
variable {w w' : World} {r : Nat} {κ : Nat → Ro} {vF vO vL vN : Value} {φ : Nat → Nat} {β : Nat → Value} {P : PD} {cut : Int} {off : Bool}

set_option maxHeartbeats 2000000 in
set_option maxRecDepth 100000 in
theorem ref_app_off (h : Wd w r κ vF vO vL vN φ β P cut off) (s : ByteArray) (ao : Option Addr) (len cap : Nat) (ho : offed P.n cut off = true) :
    Calls Try.prog 29 #[.pointer (some ⟨r, 0, none⟩), .string s, .slice ao len cap] w fun e w' => e = .returned (.int .i64 24) ∧ Rres w w' r κ P cut true := by
  have hm := ref_may h.rk
  rw [ho] at hm
  have HW := hide2 h
  clear h
  go_enter Try.func29, Try.ntmps29
  go_wp2_with fail
  refine hm.mono ?_
  rintro e w1 ⟨rfl, hk, hF, hz⟩
  have HK := hide2 hk
  clear hm hk
  go_wp2
  all_goals
    go_ret
    exact ⟨rfl, HW.out.idle HK.out hF⟩

set_option maxHeartbeats 2000000 in
set_option maxRecDepth 100000 in
theorem ref_app_name (h : Wd w r κ vF vO vL vN φ β P cut off) (s : ByteArray) (hs : s.size ≤ maxLen) (ao : Option Addr) (len cap : Nat) (ho : offed P.n cut off = false) (hn : isName s = false) :
    Calls Try.prog 29 #[.pointer (some ⟨r, 0, none⟩), .string s, .slice ao len cap] w fun e w' => e = .returned (.int .i64 20) ∧ Rres w w' r κ P cut false := by
  have hm := ref_may h.rk
  rw [ho] at hm
  have HW := hide2 h
  clear h
  go_enter Try.func29, Try.ntmps29
  go_wp2_with fail
  refine hm.mono ?_
  rintro e w1 ⟨rfl, hk, hF, hz⟩
  have hi := refIsName_any s w1 hs
  rw [hn] at hi
  have HK := hide2 hk
  clear hm hk
  go_wp2_with fail
  refine hi.mono ?_
  rintro e w2 ⟨rfl, rfl⟩
  clear hi
  go_wp2
  all_goals
    go_ret
    exact ⟨rfl, HW.out.idle HK.out hF⟩

set_option maxHeartbeats 4000000 in
set_option maxRecDepth 100000 in
theorem ref_app_new (h : Wd w r κ vF vO vL vN φ β P cut off) (hP : P.inv) (s : ByteArray) (hs : s.size ≤ maxLen) (ao : Option Addr) (len cap : Nat) (hl : (len : Int) ≤ 9223372036854775807) (ho : offed P.n cut off = false) (hn : isName s = true) (hp : plook (kl s) P.now = none) (hb : 65536 ≤ P.n ∨ 262144 < len ∨ 64 ≤ P.now.length) :
    Calls Try.prog 29 #[.pointer (some ⟨r, 0, none⟩), .string s, .slice ao len cap] w fun e w' => e = .returned (.int .i64 23) ∧ Rres w w' r κ P cut false := by
  have hm := ref_may h.rk
  rw [ho] at hm
  have hg := hP.now
  have hgl := hg.len
  have hNr := h.rN
  obtain ⟨aN, cN, rfl⟩ := hNr.form
  have hne := h.nr
  have HW := hide2 h
  have HN := hide2 hNr
  have HG := hide2 hg
  clear h hg hNr
  rw [nl_len] at *
  go_enter Try.func29, Try.ntmps29
  go_wp2_with fail
  refine hm.mono ?_
  rintro e w1 ⟨rfl, hk, hF, hz⟩
  have hi := refIsName_any s w1 hs
  rw [hn] at hi
  have hN1 : Nr w1 0 (.slice aN P.now.length cN) (nl P.now) := row_any HN.out fun j e => hF.block j (World.ownsRow.lt HN.out j e).2 (hne j e)
  have hf := find_ref hN1 (by rw [nl_len]; omega) s
  rw [nl_find HG.out.txt, hp] at hf
  obtain ⟨c0, c1, c2, c3, c4, c5, c6⟩ := hk.cells
  have HK := hide2 hk
  clear hm hk hN1 HN
  go_wp2_with fail
  refine hi.mono ?_
  rintro e w2 ⟨rfl, rfl⟩
  clear hi
  go_wp2_with fail
  refine hf.mono ?_
  rintro e w2 ⟨rfl, rfl⟩
  clear hf
  by_cases b1 : 65536 ≤ P.n
  · have d1 : decide (65536 ≤ P.n) = true := by simpa using b1
    go_wp2
    all_goals
      go_ret
      exact ⟨rfl, HW.out.idle HK.out hF⟩
  have d1 : decide (65536 ≤ P.n) = false := by simpa using b1
  by_cases b2 : 262144 < len
  · have d2 : decide ((262144 : Int) < (len : Int)) = true := by simp; omega
    have d2' : decide (262144 < len) = true := by simp; omega
    have i2 : (262144 : Int) < (len : Int) := by omega
    go_wp2
    all_goals
      go_ret
      exact ⟨rfl, HW.out.idle HK.out hF⟩
  have d2 : decide ((262144 : Int) < (len : Int)) = false := by simp; omega
  have d2' : decide (262144 < len) = false := by simp; omega
  have i2 : ¬ (262144 : Int) < (len : Int) := by omega
  have b3 : 64 ≤ P.now.length := by omega
  have d3 : decide ((64 : Int) ≤ (P.now.length : Int)) = true := by simp; omega
  have d3' : decide (64 ≤ P.now.length) = true := by simp; omega
  have i3 : (64 : Int) ≤ (P.now.length : Int) := by omega
  go_wp2
  all_goals
    go_ret
    exact ⟨rfl, HW.out.idle HK.out hF⟩

set_option maxHeartbeats 4000000 in
set_option maxRecDepth 100000 in
theorem ref_app_old (h : Wd w r κ vF vO vL vN φ β P cut off) (hP : P.inv) (s : ByteArray) (hs : s.size ≤ maxLen) (ao : Option Addr) (len cap : Nat) (hl : (len : Int) ≤ 9223372036854775807) (ho : offed P.n cut off = false) (hn : isName s = true) (i : Nat) (hp : plook (kl s) P.now = some i) (hb : 65536 ≤ P.n ∨ 262144 < len + (P.at i).1.length) :
    Calls Try.prog 29 #[.pointer (some ⟨r, 0, none⟩), .string s, .slice ao len cap] w fun e w' => e = .returned (.int .i64 23) ∧ Rres w w' r κ P cut false := by
  have hm := ref_may h.rk
  rw [ho] at hm
  have hg := hP.now
  have hgl := hg.len
  obtain ⟨a1, a2, a3, a4⟩ := hP.at hp
  have hil := (List.getElem?_eq_some_iff.1 a1).1
  have HW := hide2 h
  have HG := hide2 hg
  clear h hg
  go_enter Try.func29, Try.ntmps29
  go_wp2_with fail
  refine hm.mono ?_
  rintro e w1 ⟨rfl, hk, hF, hz⟩
  have h1 := HW.out.blk hF hk
  have hN1 := h1.rN
  have hi := refIsName_any s w1 hs
  rw [hn] at hi
  have hf := find_ref hN1 (by rw [nl_len]; exact Nat.le_trans hgl (by decide)) s
  rw [nl_find (D := P.now) HG.out.txt, hp] at hf
  replace hf : Calls Try.prog 58 #[vN, .string s] w1 fun e w' => e = .returned (.int .i64 (i : Int)) ∧ w' = w1 := hf
  obtain ⟨g, capF, rfl, hcell, hkg⟩ := h1.files (i := i) hil
  unfold rpt at hcell
  obtain ⟨b1, b2, b3, b4⟩ := h1.fil i _ a1
  obtain ⟨ab, lb, capb, hbv, hsl, _⟩ := b3.sl' a2
  have hlb : lb = (P.at i).1.length := hsl.1.symm
  rw [hbv] at b1
  obtain ⟨q0, q1⟩ := b1.cells
  obtain ⟨c0, c1, c2, c3, c4, c5, c6⟩ := hk.cells
  have hii : (i : Int) < (P.fil.length : Int) := by omega
  have hlb2 : lb ≤ 262144 := by omega
  have hi0 : ¬ (i : Int) < 0 := by omega
  have hi0d : decide ((i : Int) < 0) = false := by simp
  have hi0e : decide (0 ≤ (i : Int)) = true := by simp
  have HK := hide2 hk
  rw [← hlb] at hb
  clear hm hk hN1 h1 b1 b2 b3 b4 a1 a2 a3 a4 hsl hlb hbv
  go_wp2_with fail
  refine hi.mono ?_
  rintro e w2 ⟨rfl, rfl⟩
  clear hi
  go_wp2_with fail
  refine hf.mono ?_
  rintro e w2 ⟨rfl, rfl⟩
  clear hf
  by_cases b1 : 65536 ≤ P.n
  · have d1 : decide (65536 ≤ P.n) = true := by simpa using b1
    go_wp2
    all_goals
      go_ret
      exact ⟨rfl, HW.out.idle HK.out hF⟩
  have d1 : decide (65536 ≤ P.n) = false := by simpa using b1
  have b2 : 262144 < len + lb := by omega
  have d2 : decide ((262144 : Int) - (lb : Int) < (len : Int)) = true := by simp; omega
  have i2 : (262144 : Int) - (lb : Int) < (len : Int) := by omega
  go_wp2
  all_goals
    go_ret
    exact ⟨rfl, HW.out.idle HK.out hF⟩
end
end Go.Proofs.Ytolaagbdnchhiaa
