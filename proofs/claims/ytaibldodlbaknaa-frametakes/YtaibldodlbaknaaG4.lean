/-
  What the document's own Take does.
-/
import Derived.Test.YtaibldodlbaknaaG2
import Derived.Test.YtaibldodlbaknaaG4a
set_option linter.unusedVariables false
set_option linter.unusedSimpArgs false
namespace Go.Proofs.Ytaibldodlbaknaa
open Go.RowKit

theorem drop_part (xs : List Int) (a i j : Nat) : (xs.take (a + j)).drop (a + i) = ((xs.drop a).drop i).take (j - i) := by
  rw [List.drop_take, List.drop_drop, show a + j - (a + i) = j - i from by omega]

theorem slice_lh {P : Program} (t : TypeId) (ht : P.underlying t = some (.slice 5)) (hs : ∀ u : World, (Go.sizeOf 5).run P u = .ok 1 u) (ao : Option Addr) (len cap l k : Nat) (hl : l ≤ k) (hk : k ≤ cap) (u : World) :
    (Instr.slice t (.slice ao len cap) (some (.int .i64 (l : Int))) (some (.int .i64 (k : Int))) none).run P u = .ok (Go.sliced ao l k cap 1) u := by
  have ht' : P.underlying t = some (.slice (P.elem t)) := by simp [Program.elem, ht]
  have he : P.elem t = 5 := by simp [Program.elem, ht]
  rw [run_slice_lh u t ao len cap ht' .i64 .i64 l k (by omega) (by omega) (by omega), he, hs]
  simp only [Result.andThen, Int.toNat_natCast]

/-- The body within the pieces, with all the room that is behind it. -/
theorem Own.bodyR {w : World} {base : Nat} {v : Value} {s : List Int} (h : Own w base v s) (hb : Byt s) (n : Nat) (hn : n + 16 ≤ s.length) :
    ∃ g c ao, v = .slice (some ⟨g, 0, none⟩) s.length c ∧ s.length ≤ c ∧ c ≤ maxLen ∧ Go.sliced (some ⟨g, 0, none⟩) 16 (16 + n) c 1 = .slice ao n (c - 16) ∧ Bd w base g (.slice ao n (c - 16)) ((s.drop 16).take n) ∧ Sl w (some ⟨g, 0, none⟩) s.length c s ∧ Sl w ao n (c - 16) ((s.drop 16).take n) := by
  obtain ⟨ao0, c0, hv, hsl, _⟩ := h.sl hb
  rcases h.2 with ⟨_, h0⟩ | ⟨g, cap, cur, rfl, hg, hh, hn1, hm, hs, ht⟩
  · omega
  · simp only [Value.slice.injEq, true_and] at hv
    obtain ⟨rfl, rfl⟩ := hv
    obtain ⟨ao, e, s2⟩ := hsl.sliced 16 (16 + n) (by omega) (by omega)
    have hbk := sliced_block g 0 16 (16 + n) cap 1 ao e
    rw [show 16 + n - 16 = n from by omega] at e s2
    have el : ((s.drop 16).take n).length = n := by simp; omega
    rw [List.drop_take, show 16 + n - 16 = n from by omega] at s2
    refine ⟨g, cap, ao, rfl, hn1, hm, e, ⟨hg, ⟨cur, hh⟩, ao, cap - 16, by rw [el], ?_, hbk⟩, hsl, s2⟩
    rw [el]
    exact s2

set_option maxHeartbeats 4000000 in
theorem refTake_some (ao : Option Addr) (len cap : Nat) (xs : List Int) (a : Nat) (w : World) (h : Sl w ao len cap xs) (hlb : len ≤ 140737488355328) (hr : (a : Int) % 32 = 0) (hlt : a + 32 ≤ len) (hkd : xs.getD a 0 = 161) :
    Calls Try.prog 16 #[.slice ao len cap, .int .i64 (a : Int)] w fun e w' => TkR w xs (a : Int) e w' ∧ Below w.heap.size w w' := by
  obtain ⟨i0, hi, hz0, hz1, hz2⟩ := info_parts Try.info5
  have hx := h.1
  have hbyt := h.2.2.2.1
  have hbx : Byt (xs.drop a) := hbyt.drop a
  have hxl : (xs.drop a).length = len - a := by simp; omega
  have hta : Hid (takA xs (a : Int) = tak (xs.drop a)) := by
    unfold Hid takA
    rw [if_pos (by omega), Int.toNat_natCast]
  have hd1 : decide ((a : Int) < 0) = false := by simp
  have hr1 : ((a : Int) % 32 == 0) = true := by simpa using hr
  have hr2 : ((a : Int) % 32 != 0) = false := by simpa using hr
  have hgi : ¬ (len : Int) ≤ (a : Int) := by omega
  have hd2 : decide ((len : Int) ≤ (a : Int)) = false := by simp; omega
  have hd3 : decide (len ≤ a) = false := by simp; omega
  have hli : (len : Int) ≤ 140737488355328 := by omega
  have hd4 : decide ((len : Int) - (a : Int) < 32) = false := by simp; omega
  obtain ⟨b, off, rfl, hblt, hcell⟩ := h.2.2.2.2.2 (by omega)
  have hc := hcell a (by omega)
  rw [hkd] at hc
  have hai : (a : Int) < (len : Int) := by omega
  clear hcell
  obtain ⟨a1, hs1, hsl1⟩ := h.part (P := Try.prog) 22 Try.underlying22 Try.size5 (a + 9) (a + 13) (by omega) (by omega)
  rw [show a + 13 - (a + 9) = 4 from by omega] at hs1 hsl1
  rw [drop_part] at hsl1
  replace hs1 : ∀ u : World, (Instr.slice 22 (.slice (some ⟨b, off, none⟩) len cap) (some (.int .i64 ((a : Int) + 9))) (some (.int .i64 ((a : Int) + 13))) none).run Try.prog u = .ok (.slice a1 4 (cap - (a + 9))) u := hs1
  have hval := refValue_any a1 4 (cap - (a + 9)) _ w hsl1 (by omega)
  replace hval : Calls Try.prog 28 #[.slice a1 4 (cap - (a + 9))] w fun e w' => e = .returned (.int .u64 ((nOf (xs.drop a) : Nat) : Int)) ∧ w' = w := hval
  have hnb32 : nOf (xs.drop a) < 4294967296 := by
    have h1 := va_lt (((xs.drop a).drop 9).take 4) ((hbx.drop _).take _)
    have h2 : 256 ^ (((xs.drop a).drop 9).take 4).length ≤ 256 ^ 4 := Nat.pow_le_pow_right (by decide) (by simp; omega)
    have h3 : (256 : Nat) ^ 4 = 4294967296 := by decide
    unfold nOf
    omega
  replace hval := hF hval
  clear hsl1
  go_enter Try.func16, Try.ntmps16
  go_wp2_with fail
  refine hval.out.mono ?_
  rintro e w1 ⟨rfl, rfl⟩
  clear hval hs1 hc
  by_cases hbig : 65536 < nOf (xs.drop a)
  · have ht : Hid (takA xs (a : Int) = none) := by
      unfold Hid
      rw [hta.out]
      exact tak_bad hbx fun g => by have := g.1; omega
    have hbi : (65536 : Int) < ((nOf (xs.drop a) : Nat) : Int) := by omega
    go_wp2
    try simp only [Exit.inBlock, Exit.then]
    refine bodyPost_ret (results_tmp4 rfl _ _ _) rfl ?_
    exact ⟨.inr ⟨ht.out, rfl⟩, Below.refl _ _⟩
  have hbi : ¬ (65536 : Int) < ((nOf (xs.drop a) : Nat) : Int) := by omega
  obtain ⟨K, hK⟩ : ∃ K, K = nb (nOf (xs.drop a)) := ⟨_, rfl⟩
  have hKe : (((nOf (xs.drop a) : Nat) : Int) + 20 + 31 - 1) / 31 = (K : Int) := by rw [hK]; unfold nb; omega
  have hKb : K ≤ 3000 := by have := nb_lt (nOf (xs.drop a)); omega
  have hKn : nOf (xs.drop a) + 20 ≤ 31 * K := by rw [hK]; exact nb_ge _
  by_cases hsh : len - a < 32 * K
  · have ht : Hid (takA xs (a : Int) = none) := by
      unfold Hid
      rw [hta.out]
      exact tak_bad hbx fun g => by have := g.2.1; rw [hxl] at this; omega
    have hbi2 : (len : Int) - (a : Int) < (K : Int) * 32 := by omega
    replace hK := hF hK
    go_wp2
    try simp only [Exit.inBlock, Exit.then]
    refine bodyPost_ret (results_tmp4 rfl _ _ _) rfl ?_
    exact ⟨.inr ⟨ht.out, rfl⟩, Below.refl _ _⟩
  have hbi2 : ¬ (len : Int) - (a : Int) < (K : Int) * 32 := by omega
  have hkl : 32 * K ≤ (xs.drop a).length := by omega
  generalize hxd : xs.drop a = x at *
  replace hK := hF hK
  replace hxd := hF hxd
  obtain ⟨B, hB⟩ : ∃ B, B = w1.heap.size := ⟨_, rfl⟩
  have hb0 : Below B w1 w1 := Below.refl _ _
  have hsB0 : B ≤ w1.heap.size := by omega
  replace hB := hF hB
  go_wp2
  simp only [hKe]
  replace hKe := hF hKe
  go_loopw [10, 11] (fun v i wr => ∃ j : Nat, j ≤ K ∧ i = .int .i64 (j : Int) ∧ Own wr B v (pcs j x) ∧ Below B w1 wr) (fun _ i _ => K - (intOf i).toNat)
  case atStart => exact ⟨0, by omega, rfl, World.ownsRow_nil _ _ _ _, hb0⟩
  case round =>
    obtain ⟨j, hj, rfl, hown, hbel⟩ := hrel
    have hsz : B ≤ wr.heap.size := Nat.le_trans hsB0 hbel.size
    have hw := h.below (w' := wr) (by rw [← hB.out]; exact hbel)
    by_cases hjl : j < K
    · have hji : (j : Int) < (K : Int) := by omega
      obtain ⟨ap, hsp, hslp⟩ := hw.part (P := Try.prog) 22 Try.underlying22 Try.size5 (a + (32 * j + 1)) (a + 32 * (j + 1)) (by omega) (by omega)
      rw [drop_part, hxd.out, show 32 * (j + 1) - (32 * j + 1) = 31 from by omega] at hslp
      rw [show a + 32 * (j + 1) - (a + (32 * j + 1)) = 31 from by omega] at hsp hslp
      have e1 : ((a + (32 * j + 1) : Nat) : Int) = (a : Int) + (j : Int) * 32 + 1 := by omega
      have e2 : ((a + 32 * (j + 1) : Nat) : Int) = (a : Int) + ((j : Int) + 1) * 32 := by omega
      rw [e1, e2] at hsp
      have hpn : pcs (j + 1) x = pcs j x ++ (x.drop (32 * j + 1)).take 31 := by rw [pcs_snoc, List.drop_drop]
      have hplen := pcs_len j x (by omega)
      replace hpn := hF hpn
      generalize (x.drop (32 * j + 1)).take 31 = p at *
      generalize cap - (a + (32 * j + 1)) = cp at *
      clear e1 e2 hw
      go_wp2_with (first | (at_builtin; refine wpList_append_sl rfl _ _ 22 rfl B i0 Try.underlying22 hi hz0 hz1 hz2 _ _ rfl hown ap 31 cp _ rfl hslp (by omega) hsz ?_) | fail)
      intro v' we howne hbe
      have hbf := hbel.trans hbe
      have hownf : Own we B v' (pcs (j + 1) x) := by rw [hpn.out]; exact howne
      clear hbe howne hown hbel hslp hsp
      go_wp2
      go_roundw
      case rel => exact ⟨j + 1, by omega, by go_num, hownf, hbf⟩
      case measure => simp [intOf]; omega
    · have hji : ¬ (j : Int) < (K : Int) := by omega
      have hjK : j = K := by omega
      have hso : Hid (pcs K x = sOf x) := by unfold Hid sOf; rw [hK.out]
      rw [hjK, hso.out] at hown
      have hsb : Byt (sOf x) := pcs_byt _ _ hbx
      have hsl31 : (sOf x).length = 31 * K := by rw [← hso.out]; exact pcs_len _ _ hkl
      obtain ⟨g, c, ao2, rfl, hlc, hcm, hsli, hbd, hsls, hslb⟩ := hown.bodyR hsb (nOf x) (by omega)
      rw [hsl31] at hlc hsls ⊢
      obtain ⟨a8, hs8, hsl8⟩ := hsls.upto (P := Try.prog) 22 Try.underlying22 Try.size5 8 (by omega)
      replace hs8 : ∀ u : World, (Instr.slice 22 (.slice (some ⟨g, 0, none⟩) (31 * K) c) none (some (.int .i64 8)) none).run Try.prog u = .ok (.slice a8 8 c) u := hs8
      have hs16 := slice_lh (P := Try.prog) 22 Try.underlying22 Try.size5 (some ⟨g, 0, none⟩) (31 * K) c 16 (16 + nOf x) (by omega) (by omega)
      rw [hsli] at hs16
      replace hs16 : ∀ u : World, (Instr.slice 22 (.slice (some ⟨g, 0, none⟩) (31 * K) c) (some (.int .i64 16)) (some (.int .i64 (16 + (nOf x : Int)))) none).run Try.prog u = .ok (.slice ao2 (nOf x) (c - 16)) u := hs16
      have hbodyE : Hid (bodyOf x = ((sOf x).drop 16).take (nOf x)) := rfl
      have hseqE : Hid (seqOf x = va ((sOf x).take 8)) := rfl
      have hseql : seqOf x < 18446744073709551616 := seqOf_lt hbx
      rw [← hbodyE.out] at hbd hslb
      have hbodyL : (bodyOf x).length = nOf x := hslb.1
      have hval8 := hF (refValue_any a8 8 c _ wr hsl8 (by omega))
      rw [← hseqE.out] at hval8
      have hwr := hF hw
      clear hsl8 hsls hown hw
      replace hjK := hF hjK
      go_wp2_with fail
      refine hval8.out.mono ?_
      rintro e wr' ⟨rfl, rfl⟩
      have hfr := hF (frame_any ao2 (nOf x) (c - 16) (bodyOf x) ((seqOf x : Nat) : Int) wr' hslb (by omega) (by omega) (by omega))
      clear hval8 hslb
      go_wp2_with fail
      refine hfr.out.mono ?_
      rintro e w4 ⟨v4, rfl, hown4, hb4⟩
      rw [Int.toNat_natCast] at hown4
      have hfb := fra_byt (seqOf x) (bodyOf_byt hbx)
      obtain ⟨a4, l4, c4, rfl, hsl4, _⟩ := hown4.sl' hfb
      have hw4 := hwr.out.below hb4
      have hbd4 := hbd.below hb4
      have hb04 : Below B w1 w4 := hbel.trans (hb4.mono hsz)
      obtain ⟨a5, hs5, hsl5⟩ := hw4.part (P := Try.prog) 22 Try.underlying22 Try.size5 a (a + 32 * K) (by omega) (by omega)
      rw [show a + 32 * K = a + 32 * K from rfl, List.drop_take, hxd.out, show a + 32 * K - a = 32 * K from by omega] at hsl5
      rw [show a + 32 * K - a = 32 * K from by omega] at hs5
      have e5 : ((a + 32 * K : Nat) : Int) = (a : Int) + (K : Int) * 32 := by omega
      rw [e5] at hs5
      have hst4 : ∀ q, (convert 22 9 (.slice a4 l4 c4)).run Try.prog (w4.drewN q) = .ok (.string (strOfNums (fra (seqOf x) (bodyOf x)))) (w4.drewN q) := fun q => (hsl4.drewN q).str (P := Try.prog) 22 Try.underlying22 Try.underlying5 Try.underlying9
      have hst5 : ∀ q, (convert 22 9 (.slice a5 (32 * K) (cap - a))).run Try.prog (w4.drewN q) = .ok (.string (strOfNums (x.take (32 * K)))) (w4.drewN q) := fun q => (hsl5.drewN q).str (P := Try.prog) 22 Try.underlying22 Try.underlying5 Try.underlying9
      have heq := str_eq hfb (hbx.take (32 * K))
      have hB2 : Below w1.heap.size w1 w4 := by rw [← hB.out]; exact hb04
      clear hfr hown4 hsl4 hsl5 hw4 hbd hb4 hb04 e5 hwr hbel
      by_cases hf : fra (seqOf x) (bodyOf x) = x.take (32 * K)
      · have ht : Hid (takA xs (a : Int) = some (seqOf x, bodyOf x)) := by
          unfold Hid
          rw [hta.out]
          unfold tak
          rw [← hK.out, if_pos ⟨by omega, hkl, hf⟩]
        have hne : ((strOfNums (fra (seqOf x) (bodyOf x))).toList != (strOfNums (x.take (32 * K))).toList) = false := by
          rw [bne, heq]; simp [hf]
        have hbd5 : Bd w4 w1.heap.size g (.slice ao2 (nOf x) (c - 16)) (bodyOf x) := by rw [← hB.out]; exact hbd4
        have hnbl : Hid (nb (bodyOf x).length = K) := by unfold Hid; rw [hbodyL, hK.out]
        replace hbodyL := hF hbodyL
        clear hs8 hs16 hbd4
        go_wp2
        go_quiet (fail)
        go_wp2
        try simp only [Exit.inBlock, Exit.then]
        refine bodyPost_ret (results_tmp4 rfl _ _ _) rfl ?_
        have e1 : (a : Int) + (K : Int) * 32 = (a : Int) + ((32 * nb (bodyOf x).length : Nat) : Int) := by rw [hnbl.out]; omega
        refine ⟨.inl ⟨seqOf x, bodyOf x, .slice ao2 (nOf x) (c - 16), g, ht.out, ?_, hbd5.drewN _⟩, below_drewN hB2 _⟩
        show Ending.returned (.tuple #[.int .u64 ((seqOf x : Nat) : Int), .slice ao2 (nOf x) (c - 16), .int .i64 ((a : Int) + (K : Int) * 32), .bool true]) = _
        rw [e1]
      · have ht : Hid (takA xs (a : Int) = none) := by
          unfold Hid
          rw [hta.out]
          unfold tak
          rw [← hK.out, if_neg (fun q => hf q.2.2)]
        have hne : ((strOfNums (fra (seqOf x) (bodyOf x))).toList != (strOfNums (x.take (32 * K))).toList) = true := by
          rw [bne, heq]; simp [hf]
        clear hs8 hs16 hbd4
        go_wp2
        go_quiet (fail)
        go_wp2
        try simp only [Exit.inBlock, Exit.then]
        refine bodyPost_ret (results_tmp4 rfl _ _ _) rfl ?_
        exact ⟨.inr ⟨ht.out, rfl⟩, below_drewN hB2 _⟩

theorem refTake_any (ao : Option Addr) (len cap : Nat) (xs : List Int) (at_ : Int) (w : World) (h : Sl w ao len cap xs) (hlb : len ≤ 140737488355328) :
    Calls Try.prog 16 #[.slice ao len cap, .int .i64 at_] w fun e w' => TkR w xs at_ e w' ∧ Below w.heap.size w w' := by
  by_cases hc : 0 ≤ at_ ∧ at_ % 32 = 0 ∧ at_ + 32 ≤ (len : Int) ∧ xs.getD at_.toNat 0 = 161
  · obtain ⟨c1, c2, c3, c4⟩ := hc
    obtain ⟨a, rfl⟩ : ∃ a : Nat, at_ = (a : Int) := ⟨at_.toNat, by omega⟩
    exact refTake_some ao len cap xs a w h hlb c2 (by omega) (by simpa using c4)
  · refine refTake_none ao len cap xs at_ w h hlb ?_
    by_cases h1 : at_ < 0
    · exact .inl h1
    by_cases h2 : at_ % 32 = 0
    · by_cases h3 : at_ + 32 ≤ (len : Int)
      · refine .inr (.inr (.inr (.inr fun h4 => hc ⟨by omega, h2, h3, h4⟩)))
      · exact .inr (.inr (.inr (.inl (by omega))))
    · exact .inr (.inl h2)
end Go.Proofs.Ytaibldodlbaknaa
