/-
  The walk of the law FramePuts.
-/
import Derived.Test.YtaibldodlbaknaaF13
import Derived.Test.YtaibldodlbaknaaG3
set_option linter.unusedVariables false
set_option linter.unusedSimpArgs false
namespace Go.Proofs.Ytaibldodlbaknaa
open Go.RowKit

/-- An own row may be spoiled. -/
theorem Own.spoils {w : World} {base : Nat} {v : Value} {xs : List Int} (h : Own w base v xs) (hb : Byt xs) :
    ∃ ao len c g, v = .slice ao len c ∧ Sl w ao len c xs ∧ base ≤ g ∧ (∀ b off, ao = some ⟨b, off, none⟩ → b = g) ∧ (0 < len → ∃ cur, w.heap[g]? = some (.cells cur 5 (0, 0))) := by
  obtain ⟨ao, c, hv, hsl, _⟩ := h.sl hb
  rcases h.2 with ⟨e, h0⟩ | ⟨g, cap, cur, e, hg, hh, rest⟩
  · rw [e] at hv
    simp only [Value.slice.injEq] at hv
    obtain ⟨rfl, h1, rfl⟩ := hv
    exact ⟨none, xs.length, 0, base, by rw [e, ← h1], hsl, Nat.le_refl _, (fun b off e => by cases e), fun hl => by omega⟩
  · rw [e] at hv
    simp only [Value.slice.injEq, true_and] at hv
    obtain ⟨rfl, rfl⟩ := hv
    refine ⟨_, _, cap, g, e, hsl, hg, ?_, fun _ => ⟨cur, hh⟩⟩
    intro b off e2
    simp only [Option.some.injEq, Addr.mk.injEq] at e2
    exact e2.1.symm

set_option maxHeartbeats 2000000 in
theorem puts_walk (ao : Option Addr) (len cap : Nat) (xs : List Int) (seq : Int) (bo : Option Addr) (bl bcap : Nat) (body : List Int) (w : World) (h : Sl w ao len cap xs) (hbd : Sl w bo bl bcap body) (h0 : 0 ≤ seq) (h1 : seq ≤ 18446744073709551615) (hl : len ≤ 140737488351232) (hl2 : bl ≤ 140737488351232) :
    Calls Try.prog 3 #[.slice ao len cap, .int .u64 seq, .slice bo bl bcap] w fun e w' => e = .returned (.bool true) ∧ Below w.heap.size w w' := by
  have hx := h.1
  have hbyt := h.2.2.2.1
  have hbb := hbd.2.2.2.1
  have bytP : Byt (ptV seq.toNat xs body) := by
    unfold ptV
    split
    · exact hbyt.append (fra_byt _ hbb)
    · exact Byt.nil
  generalize hPV : ptV seq.toNat xs body = PV at *
  generalize hPE : ptE xs body = PE at *
  go_enter Try.func3, Try.ntmps3
  go_wp2_with fail
  refine (shown_any w).mono ?_
  rintro e w1 ⟨rfl, hb1⟩
  have hA1 := h.below hb1
  have hC1 := hbd.below hb1
  replace h := hF h
  replace hbd := hF hbd
  go_wp2_with fail
  refine (lent_any ao len cap xs w1 hA1 (by omega)).mono ?_
  rintro e w2 ⟨g2, c2, rfl, hL2, hb2⟩
  have hA2 := hA1.below hb2
  have hC2 := hC1.below hb2
  have hb02 := hb1.trans (hb2.mono hb1.size)
  clear hA1 hC1 hb1 hb2
  go_wp2_with fail
  refine (lent_any bo bl bcap body w2 hC2 (by omega)).mono ?_
  rintro e w3 ⟨g3, c3, rfl, hM3, hb3⟩
  have hA3 := hA2.below hb3
  have hC3 := hC2.below hb3
  have hL3 := hL2.below hb3
  have hb03 := hb02.trans (hb3.mono hb02.size)
  clear hA2 hC2 hL2 hb02 hb3
  go_wp2_with fail
  refine (put_any _ len c2 xs seq _ bl c3 body w3 hL3.sl hM3.sl h0 h1 (by omega)).mono ?_
  rintro e w4 ⟨⟨v4, rfl, hown4⟩, hb4⟩
  rw [hPV] at hown4
  rw [hPE]
  have hA4 := hA3.below hb4
  have hC4 := hC3.below hb4
  have hL4 := hL3.below hb4
  have hM4 := hM3.below hb4
  have hg2 := hL3.lt
  have hg3 := hM3.lt
  have hb04 := hb03.trans (hb4.mono hb03.size)
  clear hA3 hC3 hL3 hM3 hb4
  go_wp2_with fail
  refine (refPut_any ao len cap xs seq bo bl bcap body w4 hA4 hC4 h0 h1 (by omega)).mono ?_
  rintro e w5 ⟨⟨v5, rfl, hown5⟩, hb5⟩
  rw [hPV] at hown5
  rw [hPE]
  have hA5 := hA4.below hb5
  have hC5 := hC4.below hb5
  have hL5 := hL4.below hb5
  have hM5 := hM4.below hb5
  have hown4' := hown4.up hb5
  have hb05 := hb04.trans (hb5.mono hb04.size)
  obtain ⟨a4, l4, d4, gp, rfl, hsl4, hgp, hgp1, hgp2⟩ := hown4'.spoils bytP
  obtain ⟨a5, l5, d5, rfl, hsl5, _⟩ := hown5.sl' bytP
  have hst4 := hsl4.str (P := Try.prog) 22 Try.underlying22 Try.underlying5 Try.underlying9
  have hst5 := hsl5.str (P := Try.prog) 22 Try.underlying22 Try.underlying5 Try.underlying9
  clear hA4 hC4 hL4 hM4 hown4 hown4' hown5 hb5 hb04 hsl5
  go_wp2_with fail
  refine (spoil_any a4 l4 d4 gp w5 PV hsl4 hgp1 hgp2).mono ?_
  rintro e w6 ⟨rfl, hgr⟩
  have hb06 : Below w.heap.size w w6 := hb05.trans (gB hgr (by have := hb03.size; omega) hb05.size)
  have hA6 := h.out.below hb06
  have hC6 := hbd.out.below hb06
  have hL6 := hL5.grown hgr (by omega)
  have hM6 := hM5.grown hgr (by omega)
  clear hA5 hC5 hL5 hM5 hgr hgp1 hgp2 hsl4 hst4 hst5 hb05 hb03
  go_wp2_with fail
  refine (kept_any _ g2 len c2 ao cap xs w6 hA6 hL6).mono ?_
  rintro e w7 ⟨rfl, rfl⟩
  go_wp2_with fail
  refine (kept_any _ g3 bl c3 bo bcap body w7 hC6 hM6).mono ?_
  rintro e w8 ⟨rfl, rfl⟩
  clear hA6 hC6 hL6 hM6
  go_wp2
  go_ret
  exact ⟨by first | rfl | (simp; done), hb06⟩
end Go.Proofs.Ytaibldodlbaknaa
