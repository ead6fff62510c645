/-
  The walk of the law FrameBack.
-/
import Derived.Test.YtaibldodlbaknaaH2
set_option linter.unusedVariables false
set_option linter.unusedSimpArgs false
namespace Go.Proofs.Ytaibldodlbaknaa
open Go.RowKit

theorem Pl.drewN {w : World} {ao : Option Addr} {len cap : Nat} {ps : List (List Int)} (h : Pl w ao len cap ps) (q : Nat) : Pl (w.drewN q) ao len cap ps := by
  obtain ⟨h1, h2, h3, h4⟩ := h
  refine ⟨h1, h2, h3, fun hl => ?_⟩
  obtain ⟨b, off, e, hlt, hc⟩ := h4 hl
  refine ⟨b, off, e, by simpa using hlt, fun i hi => ?_⟩
  obtain ⟨a, l, c, h5, h6⟩ := hc i hi
  exact ⟨a, l, c, by simpa using h5, h6.drewN q⟩

theorem En.len {w : World} {base k : Nat} {v : Value} {ps : List (List Int)} (h : En w base v ps k) : ∃ ao c, v = .slice ao k c := by
  rcases h.2 with ⟨rfl, h0⟩ | ⟨g, cap, cur, rfl, _⟩
  · exact ⟨none, 0, by rw [h0]⟩
  · exact ⟨_, _, rfl⟩

theorem goes_nil {cs : List (List Int)} {F a f : Nat} (h : goes [] cs 0 F = some (a, f)) : cs = [] ∧ a = 0 ∧ f = F := by
  cases cs with
  | nil =>
    simp only [goes, Option.some.injEq, Prod.mk.injEq] at h
    exact ⟨rfl, h.1.symm, h.2.symm⟩
  | cons b bs =>
    simp only [goes] at h
    rw [takA_past Byt.nil (by simp)] at h
    simp at h

/-- Take at the beginning. -/
theorem take0_any (ro : Option Addr) (rl rc : Nat) (raw : List Int) (w : World) (h : Sl w ro rl rc raw) (hrl : rl ≤ 140737488355328) :
    Calls Try.prog 15 #[.slice ro rl rc, .int .i64 0] w fun e w' => ((∃ (seq nx bl : Nat) (a : Option Addr) (c : Nat) (body : List Int), e = .returned (.tuple #[.int .u64 (seq : Int), .slice a bl c, .int .i64 (nx : Int), .bool true]) ∧ Sl w' a bl c body ∧ seq < 18446744073709551616 ∧ bl ≤ 65536 ∧ nx ≤ rl ∧ fra seq body = raw.take nx) ∨
      e = .returned (.tuple #[.int .u64 0, .slice none 0 0, .int .i64 0, .bool false])) ∧ Below w.heap.size w w' := by
  have hbr := h.2.2.2.1
  have hrx := h.1
  refine (take_any ro rl rc raw 0 w h hrl).mono ?_
  rintro e w' ⟨hr, hb⟩
  refine ⟨?_, hb⟩
  rcases hr with ⟨seq, body, v, g, ht, e1, hbd⟩ | ⟨_, e1⟩
  · obtain ⟨t1, t2, t3, t4, t5, t6, t7⟩ := takA_some (a := 0) hbr ht
    rw [List.drop_zero] at t3
    obtain ⟨_, _, _, e6, e7, _⟩ := tak_some hbr t3
    obtain ⟨_, _, a, c, e2, hs, _⟩ := hbd
    refine .inl ⟨seq, 32 * nb body.length, body.length, a, c, body, ?_, hs, t5, t7, by omega, e6⟩
    rw [e1, e2, Int.zero_add]
  · exact .inr e1
/-- Put behind nothing. -/
theorem put0_any (seq : Nat) (a : Option Addr) (bl c : Nat) (body : List Int) (w : World) (h : Sl w a bl c body) (hs : seq < 18446744073709551616) (hl : bl ≤ 65536) :
    Calls Try.prog 11 #[.slice none 0 0, .int .u64 (seq : Int), .slice a bl c] w fun e w' => (∃ a6 l6 c6, e = .returned (.tuple #[.slice a6 l6 c6, .int .i64 0]) ∧ (fra seq body).length = l6 ∧ Sl w' a6 l6 c6 (fra seq body)) ∧ Below w.heap.size w w' := by
  have hx := h.1
  have hE : ptE [] body = 0 := by unfold ptE; rw [if_neg (by simp), if_neg (by omega)]
  have hV : ptV seq [] body = fra seq body := by unfold ptV; rw [hE, if_pos rfl, List.nil_append]
  refine (put_any none 0 0 [] (seq : Int) a bl c body w (Sl.nil w) h (by omega) (by omega) (by omega)).mono ?_
  rintro e w' ⟨⟨v, e, ho⟩, hb⟩
  rw [Int.toNat_natCast, hV] at ho
  rw [hE] at e
  obtain ⟨a6, l6, c6, rfl, hsl, _⟩ := ho.sl' (fra_byt seq h.2.2.2.1)
  exact ⟨⟨a6, l6, c6, e, hsl.1, hsl⟩, hb⟩

set_option maxHeartbeats 4000000 in
/-- From 'begin' on: what FrameBack does with the raw bytes. -/
theorem back_walk (ao : Option Addr) (len cap : Nat) (ps : List (List Int)) (F : Int) (ro : Option Addr) (rl rc : Nat) (raw : List Int) (w : World) (h : Pl w ao len cap ps) (hr : Sl w ro rl rc raw) (h0 : 0 ≤ F) (h1 : F ≤ 18446744073709551615) (hrl : rl ≤ 140737488355328) :
    Calls Try.prog 8 #[.int .u64 F, .slice ao len cap, .slice ro rl rc] w fun e w' => e = .returned (.bool true) ∧ Below w.heap.size w w' := by
  obtain ⟨N, hN⟩ : ∃ N : Nat, F = (N : Int) ∧ N < 18446744073709551616 := ⟨F.toNat, by omega, by omega⟩
  obtain ⟨rfl, hN⟩ := hN
  have hpl := h.1
  have hbr := hr.2.2.2.1
  have hrx := hr.1
  go_enter Try.func8, Try.ntmps8
  go_wp2_with fail
  refine (shown_any w).mono ?_
  rintro e w1 ⟨rfl, hb1⟩
  have hP1 := h.below hb1
  have hR1 := hr.below hb1
  clear h hr
  go_wp2_with fail
  refine (lput_any ao len cap ps N 20 w1 hP1 hN (by omega)).mono ?_
  rintro e w2 ⟨hres, hb2⟩
  have hb02 : Below w.heap.size w w2 := hb1.trans (hb2.mono hb1.size)
  have hP2 := hP1.below hb2
  have hR2 := hR1.below hb2
  clear hP1 hR1 hb1 hb2
  obtain ⟨m, hm⟩ : ∃ m, m = min len 20 := ⟨_, rfl⟩
  rw [← hm] at hres
  have hml : (ps.take m).length = m := by simp; omega
  have hm20 : m ≤ 20 := by omega
  replace hm := hF hm
  have key : ∀ (w3 w4 : World) (v : Value) (base : Nat) (bs : List (List Int)) (k : Nat), Below w.heap.size w w3 → True := fun _ _ _ _ _ _ _ => trivial
  clear key
  rcases hres with ⟨hok, vb, ve, rfl, hown, hen⟩ | ⟨hno, rfl⟩
  · have hfb := fras_byt N _ hok
    have hfl := fras_len N (ps.take m)
    obtain ⟨av, lv, cv, rfl, hslv, _⟩ := hown.sl' hfb
    have hlv : lv = eo (ps.take m) := by rw [← hslv.1, hfl]
    have hbd := eo_bound _ hok
    obtain ⟨ae, ce, rfl⟩ := hen.len
    have hall := all_any av lv cv _ (N : Int) w2 hslv (by omega) (by omega) (by omega)
    have hall2 : Calls Try.prog 17 #[.slice av lv cv, .int .u64 (N : Int)] w2 fun e w' => (∃ v, e = .returned (.tuple #[v, .int .i64 (lv : Int), .int .i64 0]) ∧ Bs w' w2.heap.size v (ps.take m)) ∧ Below w2.heap.size w2 w' := by
      refine hall.mono ?_
      rintro e w' ⟨⟨cs, a, f, q1, q2, q3⟩, hb⟩
      rw [Int.toNat_natCast] at q1
      obtain ⟨rfl, rfl, hnl⟩ := all_fras hok hN q1 q2
      refine ⟨?_, hb⟩
      rcases q3 with ⟨hl, _⟩ | ⟨_, v, e, hB⟩
      · exact absurd hl hnl
      · exact ⟨v, by rw [hlv]; exact e, hB⟩
    replace hall2 := hF hall2
    clear hall hslv hown hen hok hfb hfl hlv hbd
    go_wp2_with fail
    refine hall2.out.mono ?_
    rintro e w3 ⟨⟨v3, rfl, hBs⟩, hb3⟩
    have hP3 := hP2.below hb3
    have hR3 := hR2.below hb3
    have hb03 := hb02.trans (hb3.mono hb02.size)
    obtain ⟨a3, c3, hv3⟩ := hBs.len
    rw [hml] at hv3
    subst hv3
    have hbeg := hF (begin_any _ ao len cap ps _ m _ w3 hP3 hBs rfl)
    clear hall2 hP2 hR2 hb02 hb3 hBs hP3
    go_wp2_with fail
    refine hbeg.out.mono ?_
    rintro e w4 ⟨rfl, q4, hw4⟩
    have hb04 : Below w.heap.size w w4 := by rw [hw4]; exact below_drewN hb03 _
    have hR4 : Sl w4 ro rl rc raw := by rw [hw4]; exact hR3.drewN _
    clear hbeg hw4 hR3 hb03
    have htk := hF (take0_any ro rl rc raw w4 hR4 hrl)
    go_wp2_with fail
    refine htk.out.mono ?_
    rintro e w5 ⟨hres, hb5⟩
    have hb05 := hb04.trans (hb5.mono hb04.size)
    have hR5 := hR4.below hb5
    clear htk hR4 hb04 hb5
    rcases hres with ⟨seq, nx, bl, a5, c5, body, rfl, hs5, hsq, hblb, hnx, hfr⟩ | rfl
    · have hput2 := hF (put0_any seq a5 bl c5 body w5 hs5 hsq hblb)
      replace hfr := hF hfr
      clear hs5
      go_wp2_with fail
      refine hput2.out.mono ?_
      rintro e w6 ⟨⟨a6, l6, c6, rfl, hl6, hsl6⟩, hb6⟩
      have hb06 := hb05.trans (hb6.mono hb05.size)
      have hR6 := hR5.below hb6
      have hln : l6 = nx := by
        have h1 := congrArg List.length hfr.out
        rw [List.length_take, Nat.min_eq_left (by omega)] at h1
        omega
      subst hln
      obtain ⟨a7, hs7, hsl7⟩ := hR6.upto (P := Try.prog) 22 Try.underlying22 Try.size5 l6 (by omega)
      rw [← hfr.out] at hsl7
      have hst6 : ∀ q, (convert 22 9 (.slice a6 l6 c6)).run Try.prog (w6.drewN q) = .ok (.string (strOfNums (fra seq body))) (w6.drewN q) := fun q => (hsl6.drewN q).str (P := Try.prog) 22 Try.underlying22 Try.underlying5 Try.underlying9
      have hst7 : ∀ q, (convert 22 9 (.slice a7 l6 rc)).run Try.prog (w6.drewN q) = .ok (.string (strOfNums (fra seq body))) (w6.drewN q) := fun q => (hsl7.drewN q).str (P := Try.prog) 22 Try.underlying22 Try.underlying5 Try.underlying9
      generalize strOfNums (fra seq body) = SS at *
      clear hput2 hsl6 hsl7 hR6 hR5 hb05 hb6 hfr hl6
      go_wp2
      go_quiet (fail)
      go_wp2
      go_ret
      exact ⟨by first | rfl | (simp; done), below_drewN hb06 _⟩
    · clear hR5
      go_wp2
      go_ret
      exact ⟨by first | rfl | (simp; done), hb05⟩
  · have hall := all_any none 0 0 [] (N : Int) w2 (Sl.nil w2) (by omega) (by omega) (by omega)
    have hall2 : Calls Try.prog 17 #[.slice none 0 0, .int .u64 (N : Int)] w2 fun e w' => (∃ v, e = .returned (.tuple #[v, .int .i64 0, .int .i64 0]) ∧ Bs w' w2.heap.size v []) ∧ Below w2.heap.size w2 w' := by
      refine hall.mono ?_
      rintro e w' ⟨⟨cs, a, f, q1, q2, q3⟩, hb⟩
      obtain ⟨rfl, rfl, rfl⟩ := goes_nil q1
      refine ⟨?_, hb⟩
      rcases q3 with ⟨hl, _⟩ | ⟨_, v, e, hB⟩
      · exact absurd hl (late_past Byt.nil (by simp))
      · exact ⟨v, e, hB⟩
    replace hall2 := hF hall2
    clear hall hno
    go_wp2_with fail
    refine hall2.out.mono ?_
    rintro e w3 ⟨⟨v3, rfl, hBs⟩, hb3⟩
    have hP3 := hP2.below hb3
    have hR3 := hR2.below hb3
    have hb03 := hb02.trans (hb3.mono hb02.size)
    have hbeg := hF (begin_any _ ao len cap ps _ 0 _ w3 hP3 hBs rfl)
    clear hall2 hP2 hR2 hb02 hb3 hBs hP3
    go_wp2_with fail
    refine hbeg.out.mono ?_
    rintro e w4 ⟨rfl, q4, hw4⟩
    have hb04 : Below w.heap.size w w4 := by rw [hw4]; exact below_drewN hb03 _
    have hR4 : Sl w4 ro rl rc raw := by rw [hw4]; exact hR3.drewN _
    clear hbeg hw4 hR3 hb03
    have htk := hF (take0_any ro rl rc raw w4 hR4 hrl)
    go_wp2_with fail
    refine htk.out.mono ?_
    rintro e w5 ⟨hres, hb5⟩
    have hb05 := hb04.trans (hb5.mono hb04.size)
    have hR5 := hR4.below hb5
    clear htk hR4 hb04 hb5
    rcases hres with ⟨seq, nx, bl, a5, c5, body, rfl, hs5, hsq, hblb, hnx, hfr⟩ | rfl
    · have hput2 := hF (put0_any seq a5 bl c5 body w5 hs5 hsq hblb)
      replace hfr := hF hfr
      clear hs5
      go_wp2_with fail
      refine hput2.out.mono ?_
      rintro e w6 ⟨⟨a6, l6, c6, rfl, hl6, hsl6⟩, hb6⟩
      have hb06 := hb05.trans (hb6.mono hb05.size)
      have hR6 := hR5.below hb6
      have hln : l6 = nx := by
        have h1 := congrArg List.length hfr.out
        rw [List.length_take, Nat.min_eq_left (by omega)] at h1
        omega
      subst hln
      obtain ⟨a7, hs7, hsl7⟩ := hR6.upto (P := Try.prog) 22 Try.underlying22 Try.size5 l6 (by omega)
      rw [← hfr.out] at hsl7
      have hst6 : ∀ q, (convert 22 9 (.slice a6 l6 c6)).run Try.prog (w6.drewN q) = .ok (.string (strOfNums (fra seq body))) (w6.drewN q) := fun q => (hsl6.drewN q).str (P := Try.prog) 22 Try.underlying22 Try.underlying5 Try.underlying9
      have hst7 : ∀ q, (convert 22 9 (.slice a7 l6 rc)).run Try.prog (w6.drewN q) = .ok (.string (strOfNums (fra seq body))) (w6.drewN q) := fun q => (hsl7.drewN q).str (P := Try.prog) 22 Try.underlying22 Try.underlying5 Try.underlying9
      generalize strOfNums (fra seq body) = SS at *
      clear hput2 hsl6 hsl7 hR6 hR5 hb05 hb6 hfr hl6
      go_wp2
      go_quiet (fail)
      go_wp2
      go_ret
      exact ⟨by first | rfl | (simp; done), below_drewN hb06 _⟩
    · clear hR5
      go_wp2
      go_ret
      exact ⟨by first | rfl | (simp; done), hb05⟩
end Go.Proofs.Ytaibldodlbaknaa
