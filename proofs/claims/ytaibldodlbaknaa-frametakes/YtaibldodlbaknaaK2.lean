/-
  The walk of the law FrameTakes.
-/
import Derived.Test.YtaibldodlbaknaaF13
import Derived.Test.YtaibldodlbaknaaG4
set_option linter.unusedVariables false
set_option linter.unusedSimpArgs false
namespace Go.Proofs.Ytaibldodlbaknaa
open Go.RowKit

theorem gB2 {w w' : World} {g B : Nat} (h : w.grownBy w' (some g)) (hg : B ≤ g) (hB : B ≤ w.heap.size) : Below B w w' :=
  (Below.refl _ _).grown h hB fun k hk => by cases hk; exact hg

set_option maxHeartbeats 2000000 in
theorem takes_walk (ao : Option Addr) (len cap : Nat) (xs : List Int) (at_ : Int) (w : World) (h : Sl w ao len cap xs) (hl : len + 1 ≤ 140737488355328) :
    Calls Try.prog 4 #[.slice ao len cap, .int .i64 at_] w fun e w' => e = .returned (.bool true) ∧ Below w.heap.size w w' := by
  have hx := h.1
  have hbyt := h.2.2.2.1
  go_enter Try.func4, Try.ntmps4
  go_wp2_with fail
  refine (shown_any w).mono ?_
  rintro e w1 ⟨rfl, hb1⟩
  have hA1 := h.below hb1
  replace h := hF h
  go_wp2_with fail
  refine (lent_any ao len cap xs w1 hA1 hl).mono ?_
  rintro e w2 ⟨g2, c2, rfl, hL2, hb2⟩
  have hb02 := hb1.trans (hb2.mono hb1.size)
  clear hA1 hb1 hb2
  go_wp2_with fail
  refine (take_any _ len c2 xs at_ w2 hL2.sl (by omega)).mono ?_
  rintro e w3 ⟨hres3, hb3⟩
  have hL3 := hL2.below hb3
  have hg2 := hL2.lt
  have hb03 := hb02.trans (hb3.mono hb02.size)
  have hA3 := h.out.below hb03
  have href := refTake_any ao len cap xs at_ w3 hA3 (by omega)
  clear hL2
  rcases hres3 with ⟨seq, body, v3, gb, ht, rfl, hbd3⟩ | ⟨ht, rfl⟩
  · have href2 : Calls Try.prog 16 #[.slice ao len cap, .int .i64 at_] w3 fun e w' => (∃ v g, e = .returned (.tuple #[.int .u64 ((seq : Nat) : Int), v, .int .i64 (at_ + ((32 * nb body.length : Nat) : Int)), .bool true]) ∧ Bd w' w3.heap.size g v body) ∧ Below w3.heap.size w3 w' := by
      refine href.mono ?_
      rintro e w' ⟨hr, hb⟩
      refine ⟨?_, hb⟩
      rcases hr with ⟨seq', body', v, g, ht', e1, e2⟩ | ⟨ht', _⟩
      · rw [ht] at ht'
        simp only [Option.some.injEq, Prod.mk.injEq] at ht'
        obtain ⟨rfl, rfl⟩ := ht'
        exact ⟨v, g, e1, e2⟩
      · rw [ht] at ht'
        cases ht'
    replace href2 := hF href2
    clear href ht
    generalize at_ + ((32 * nb body.length : Nat) : Int) = nx at *
    obtain ⟨hbg, hbc, a3, c3, rfl, hs3, hb3g⟩ := hbd3
    go_wp2_with fail
    refine href2.out.mono ?_
    rintro e w4 ⟨⟨v4, g4, rfl, hbd4⟩, hb4⟩
    have hL4 := hL3.below hb4
    have hs34 := hs3.below hb4
    have hb04 := hb03.trans (hb4.mono hb03.size)
    have hbc4 : ∃ cur, w4.heap[gb]? = some (.cells cur 5 (0, 0)) := by
      obtain ⟨cur, q⟩ := hbc
      exact ⟨cur, (hb4.block gb ((Array.getElem?_eq_some_iff.1 q).1)).trans q⟩
    obtain ⟨_, _, a4, c4, rfl, hs4, _⟩ := hbd4
    have hst3 := hs34.str (P := Try.prog) 22 Try.underlying22 Try.underlying5 Try.underlying9
    have hst4 := hs4.str (P := Try.prog) 22 Try.underlying22 Try.underlying5 Try.underlying9
    replace hbc4 := hF hbc4
    clear href2 hs3 hs4 hbc hL3 hb03 hb4
    go_wp2_with fail
    refine (spoil_any a3 body.length c3 gb w4 body hs34 hb3g (fun _ => hbc4.out)).mono ?_
    rintro e w5 ⟨rfl, hgr⟩
    have hb05 : Below w.heap.size w w5 := hb04.trans (gB2 hgr (by have := hb02.size; omega) hb04.size)
    have hA5 := h.out.below hb05
    have hL5 := hL4.grown hgr (by omega)
    clear hst3 hst4 hs34 hgr hL4 hbc4 hb04
    go_wp2_with fail
    refine (kept_any _ g2 len c2 ao cap xs w5 hA5 hL5).mono ?_
    rintro e w6 ⟨rfl, rfl⟩
    clear hA5 hL5
    go_wp2
    go_ret
    exact ⟨by first | rfl | (simp; done), hb05⟩
  · have href2 : Calls Try.prog 16 #[.slice ao len cap, .int .i64 at_] w3 fun e w' => e = .returned (.tuple #[.int .u64 0, .slice none 0 0, .int .i64 0, .bool false]) ∧ Below w3.heap.size w3 w' := by
      refine href.mono ?_
      rintro e w' ⟨hr, hb⟩
      refine ⟨?_, hb⟩
      rcases hr with ⟨seq', body', v, g, ht', e1, e2⟩ | ⟨_, e1⟩
      · rw [ht] at ht'
        cases ht'
      · exact e1
    replace href2 := hF href2
    clear href ht
    go_wp2_with fail
    refine href2.out.mono ?_
    rintro e w4 ⟨rfl, hb4⟩
    have hL4 := hL3.below hb4
    have hb04 := hb03.trans (hb4.mono hb03.size)
    have hst4 := (Sl.nil w4).str (P := Try.prog) 22 Try.underlying22 Try.underlying5 Try.underlying9
    clear href2 hL3 hb03 hb4
    go_wp2_with fail
    refine (spoil_any none 0 0 w4.heap.size w4 [] (Sl.nil w4) (fun b off e => by cases e) (fun q => by omega)).mono ?_
    rintro e w5 ⟨rfl, hgr⟩
    have hb05 : Below w.heap.size w w5 := hb04.trans (gB2 hgr hb04.size hb04.size)
    have hA5 := h.out.below hb05
    have hL5 := hL4.grown hgr (by have := hL4.lt; omega)
    clear hst4 hgr hL4 hb04
    go_wp2_with fail
    refine (kept_any _ g2 len c2 ao cap xs w5 hA5 hL5).mono ?_
    rintro e w6 ⟨rfl, rfl⟩
    clear hA5 hL5
    go_wp2
    go_ret
    exact ⟨by first | rfl | (simp; done), hb05⟩
end Go.Proofs.Ytaibldodlbaknaa
