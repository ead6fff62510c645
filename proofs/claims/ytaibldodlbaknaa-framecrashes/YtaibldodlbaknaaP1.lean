/-
  What becomes of a frame when one byte is another one: plain mathematics.
-/
import Derived.Test.YtaibldodlbaknaaH1
set_option linter.unusedVariables false
set_option linter.unusedSimpArgs false
namespace Go.Proofs.Ytaibldodlbaknaa
open Go.RowKit

theorem Byt.set {xs : List Int} (h : Byt xs) (k : Nat) {z : Int} (hz : 0 ≤ z ∧ z ≤ 255) : Byt (xs.set k z) := by
  intro y hy
  rcases List.mem_or_eq_of_mem_set hy with hy | rfl
  · exact h y hy
  · exact hz
theorem split_at (xs : List Int) (k : Nat) (h : k < xs.length) (z : Int) : xs = xs.take k ++ xs.getD k 0 :: xs.drop (k + 1) ∧ xs.set k z = xs.take k ++ z :: xs.drop (k + 1) := by
  constructor
  · conv => lhs; rw [← List.take_append_drop k xs]
    congr 1
    rw [List.drop_eq_getElem_cons h]
    simp [List.getD, List.getElem?_eq_getElem h]
  · rw [List.set_eq_take_append_cons_drop, if_pos h]
theorem turned (xs : List Int) (k : Nat) (h : k < xs.length) (z : Int) (hb : Byt xs) (hz0 : 0 ≤ z) (hz1 : z ≤ 255) (hne : xs.getD k 0 ≠ z) : crc xs ≠ crc (xs.set k z) := by
  obtain ⟨e1, e2⟩ := split_at xs k h z
  have hx := hb.getD k
  rw [e2]
  conv => lhs; rw [e1]
  exact crc_turns (hb.take _) (hb.drop _) hx.1 hz0 hx.2 hz1 hne

/-- Bytes with their sum, one of which is another one, do not end in their sum. -/
theorem poke_ends {s : List Int} (hs : Byt s) {k : Nat} (hk : k < (sm s).length) {z : Int} (hz : 0 ≤ z ∧ z ≤ 255) (hne : (sm s).getD k 0 ≠ z) : ¬ Ends ((sm s).set k z) := by
  rintro ⟨_, h⟩
  have hl := sm_len s
  rw [List.length_set, hl, show s.length + 4 - 4 = s.length from by omega] at h
  by_cases hks : k < s.length
  · have e1 : (sm s).set k z = s.set k z ++ lo 4 (crc s) := by
      unfold sm
      rw [List.set_append_left _ _ hks]
    rw [e1, List.drop_left' (by simp), List.take_left' (by simp), va_lo 4 _ (crc_lt hs)] at h
    refine turned s k hks z hs hz.1 hz.2 ?_ h
    unfold sm at hne
    simp only [List.getD] at hne ⊢
    rw [List.getElem?_append_left hks] at hne
    exact hne
  · have e1 : (sm s).set k z = s ++ (lo 4 (crc s)).set (k - s.length) z := by
      unfold sm
      rw [List.set_append_right _ _ (by omega)]
    rw [e1, List.drop_left, List.take_left] at h
    have hlo : va (lo 4 (crc s)) = crc s := va_lo 4 _ (crc_lt hs)
    replace h := h.trans hlo.symm
    have e2 := va_inj ((lo_byt 4 (crc s)).set _ hz) (lo_byt 4 (crc s)) (by simp) h
    apply hne
    unfold sm
    have hkl : k - s.length < (lo 4 (crc s)).length := by rw [lo_len]; omega
    have e3 := congrArg (fun l => l.getD (k - s.length) 0) e2
    simp only [List.getD] at e3 ⊢
    rw [List.getElem?_append_right (by omega), ← e3, List.getElem?_set_self hkl]
    rfl

theorem pcs_set : ∀ (k : Nat) (x : List Int) (j : Nat) (z : Int), 32 * k ≤ x.length → j < 32 * k → j % 32 ≠ 0 → pcs k (x.set j z) = (pcs k x).set (31 * (j / 32) + (j % 32 - 1)) z
  | 0, x, j, z, h, hj, hm => by omega
  | k + 1, x, j, z, h, hj, hm => by
    have hl31 : ((x.drop 1).take 31).length = 31 := by simp; omega
    by_cases hlt : j < 32
    · have e1 : ((x.set j z).drop 1).take 31 = ((x.drop 1).take 31).set (j - 1) z := by
        rw [List.drop_set, if_neg (by omega), List.take_set]
      have e2 : (x.set j z).drop 32 = x.drop 32 := by
        rw [List.drop_set, if_pos hlt]
      rw [pcs, pcs, e1, e2, List.set_append_left _ _ (by rw [hl31]; omega)]
      congr 1
      congr 1
      omega
    · have e1 : ((x.set j z).drop 1).take 31 = (x.drop 1).take 31 := by
        rw [List.drop_set, if_neg (by omega), List.take_set]
        exact List.set_eq_of_length_le (by rw [hl31]; omega)
      have e2 : (x.set j z).drop 32 = (x.drop 32).set (j - 32) z := by
        rw [List.drop_set, if_neg (by omega)]
      rw [pcs, pcs, e1, e2, pcs_set k (x.drop 32) (j - 32) z (by simp; omega) (by omega) (by omega), List.set_append_right _ _ (by rw [hl31]; omega), hl31]
      congr 1
      congr 1
      omega

/-- A frame one of whose bytes is another one is none any more. -/
theorem poke_tak {seq : Nat} {body rest : List Int} {j : Nat} {z : Int} (hs : seq < 18446744073709551616) (hb : Byt body) (hl : body.length ≤ 65536) (hr : Byt rest) (hj : j < 32 * nb body.length) (hz : 0 ≤ z ∧ z ≤ 255) (hne : (fra seq body).getD j 0 ≠ z) : tak ((fra seq body).set j z ++ rest) = none := by
  have hfl := fra_len seq body
  have hfb := fra_byt seq hb
  have hge := nb_ge body.length
  have hpos := nb_pos body.length
  obtain ⟨y, hy⟩ : ∃ y, y = (fra seq body).set j z ++ rest := ⟨_, rfl⟩
  have hyb : Byt y := by rw [hy]; exact (hfb.set _ hz).append hr
  have hyl : 32 * nb body.length ≤ y.length := by rw [hy, List.length_append, List.length_set, hfl]; omega
  obtain ⟨k1, k2⟩ := (lay_iff (nb body.length) 161 (st seq body) (fra seq body) hfl (by rw [st_len]; omega)).1 rfl
  rw [← hy]
  have hyj : y.getD j 0 = z := by
    rw [hy]
    simp only [List.getD]
    rw [List.getElem?_append_left (by rw [List.length_set, hfl]; exact hj), List.getElem?_set_self (by rw [hfl]; exact hj)]
    rfl
  -- what lies in its blocks
  have hpy : pcs (nb body.length) y = pcs (nb body.length) ((fra seq body).set j z) := by
    have : ((fra seq body).set j z) = y.take (32 * nb body.length) := by rw [hy, List.take_left' (by rw [List.length_set, hfl])]
    rw [this, pcs_take _ _ _ (Nat.le_refl _)]
  by_cases hm : j % 32 = 0
  · by_cases h0 : j = 0
    · subst h0
      refine tak_kind hyb ?_
      rw [hyj]
      have := kds_at _ _ _ k1 0 (by omega)
      simp only [Nat.mul_zero, if_true] at this
      rw [this] at hne
      exact fun e => hne e.symm
    · refine tak_bad hyb fun g => ?_
      have hn : nOf y = body.length := by
        have e1 : (y.drop 9).take 4 = ((fra seq body).drop 9).take 4 := by
          rw [hy, List.drop_append_of_le_length (by rw [List.length_set, hfl]; omega), List.take_append_of_le_length (by rw [List.length_drop, List.length_set, hfl]; omega), List.drop_set, if_neg (by omega), List.take_set]
          exact List.set_eq_of_length_le (by simp; omega)
        have e2 := (fra_good (x := fra seq body) hs hb hl (by rw [hfl]; exact Nat.le_refl _) (by rw [List.take_of_length_le (by rw [hfl]; exact Nat.le_refl _)])).2.2.2
        unfold nOf at e2 ⊢
        rw [e1, e2]
      have hk := g.2.2.1
      rw [hn] at hk
      have e1 := kds_at _ _ _ hk (j / 32) (by omega)
      rw [show 32 * (j / 32) = j from by omega, hyj, if_neg (by omega)] at e1
      have e2 := kds_at _ _ _ k1 (j / 32) (by omega)
      rw [show 32 * (j / 32) = j from by omega, if_neg (by omega)] at e2
      exact hne (e2.trans e1.symm)
  · have hps := pcs_set (nb body.length) (fra seq body) j z (by rw [hfl]; exact Nat.le_refl _) hj hm
    rw [k2] at hps
    rw [hps] at hpy
    refine tak_bad hyb fun g => ?_
    have hy32 : 32 ≤ y.length := by omega
    have hst : st seq body = sm (hd seq body.length) ++ (body ++ lo 4 (crc (sm (hd seq body.length) ++ body))) := by
      simp [st, sm, List.append_assoc]
    have h16 : (sm (hd seq body.length)).length = 16 := by rw [sm_len, hd_len]
    -- where the byte lies among the pieces
    have hidx : 31 * (j / 32) + (j % 32 - 1) < 31 * nb body.length := by omega
    have hget : (st seq body ++ List.replicate (31 * nb body.length - (st seq body).length) 0).getD (31 * (j / 32) + (j % 32 - 1)) 0 ≠ z := by
      have hzz : ∀ (k : Nat) (x : List Int) (j : Nat), 32 * k ≤ x.length → j < 32 * k → j % 32 ≠ 0 → (pcs k x).getD (31 * (j / 32) + (j % 32 - 1)) 0 = x.getD j 0 := by
        intro k
        induction k with
        | zero => intro x j _ hj; omega
        | succ k ih =>
          intro x j hx hj hm
          have hl31 : ((x.drop 1).take 31).length = 31 := by simp; omega
          rw [pcs]
          by_cases hlt : j < 32
          · simp only [List.getD]
            rw [List.getElem?_append_left (by rw [hl31]; omega), List.getElem?_take_of_lt (by omega), List.getElem?_drop, show 1 + (31 * (j / 32) + (j % 32 - 1)) = j from by omega]
          · have := ih (x.drop 32) (j - 32) (by simp; omega) (by omega) (by omega)
            simp only [List.getD, List.getElem?_drop] at this ⊢
            rw [List.getElem?_append_right (by rw [hl31]; omega), hl31, show 31 * (j / 32) + (j % 32 - 1) - 31 = 31 * ((j - 32) / 32) + ((j - 32) % 32 - 1) from by omega, this, show 32 + (j - 32) = j from by omega]
      rw [← k2, hzz _ _ _ (by rw [hfl]; exact Nat.le_refl _) hj hm]
      exact hne
    have hstl := st_len seq body
    by_cases hh : j < 17
    · -- the head
      have e16 : (pcs (nb body.length) y).take 16 = (sm (hd seq body.length)).set (31 * (j / 32) + (j % 32 - 1)) z := by
        rw [hpy, hst, List.append_assoc, List.set_append_left _ _ (by rw [h16]; omega), List.take_left' (by rw [List.length_set, h16])]
      have e17 : (sOf y).take 16 = (pcs (nb body.length) y).take 16 := by
        have a1 := pcs_head (nb (nOf y)) y (nb_pos _) 0 16 (by omega) hy32
        have a2 := pcs_head (nb body.length) y hpos 0 16 (by omega) hy32
        rw [List.drop_zero] at a1 a2
        unfold sOf
        rw [a1, a2]
      have hg := g.2.2.2.1
      rw [e17, e16] at hg
      refine poke_ends (hd_byt _ _) (by rw [h16]; omega) hz ?_ hg
      rw [hst, List.append_assoc] at hget
      simp only [List.getD] at hget ⊢
      rw [List.getElem?_append_left (by rw [h16]; omega)] at hget
      exact hget
    · have hn : nOf y = body.length := by
        have e1 : (y.drop 9).take 4 = ((fra seq body).drop 9).take 4 := by
          rw [hy, List.drop_append_of_le_length (by rw [List.length_set, hfl]; omega), List.take_append_of_le_length (by rw [List.length_drop, List.length_set, hfl]; omega), List.drop_set, if_neg (by omega), List.take_set]
          exact List.set_eq_of_length_le (by simp; omega)
        have e2 := (fra_good (x := fra seq body) hs hb hl (by rw [hfl]; exact Nat.le_refl _) (by rw [List.take_of_length_le (by rw [hfl]; exact Nat.le_refl _)])).2.2.2
        unfold nOf at e2 ⊢
        rw [e1, e2]
      have hso : sOf y = (st seq body ++ List.replicate (31 * nb body.length - (st seq body).length) 0).set (31 * (j / 32) + (j % 32 - 1)) z := by
        unfold sOf
        rw [hn]
        exact hpy
      by_cases hin : 31 * (j / 32) + (j % 32 - 1) < body.length + 20
      · have e20 : (sOf y).take (body.length + 20) = (st seq body).set (31 * (j / 32) + (j % 32 - 1)) z := by
          rw [hso, List.set_append_left _ _ (by rw [hstl]; exact hin), List.take_left' (by rw [List.length_set, hstl])]
        have hg := g.2.2.2.2.2
        rw [hn, e20] at hg
        refine poke_ends ((sm_byt (hd_byt _ _)).append hb) (by rw [← st, hstl]; exact hin) hz ?_ hg
        rw [← st]
        simp only [List.getD] at hget ⊢
        rw [List.getElem?_append_left (by rw [hstl]; exact hin)] at hget
        exact hget
      · have hg := g.2.2.2.2.1
        rw [hn, hso, List.set_append_right _ _ (by rw [hstl]; omega), List.drop_left' hstl] at hg
        have e3 := congrArg (fun l => l.getD (31 * (j / 32) + (j % 32 - 1) - (st seq body).length) 0) hg
        simp only [List.getD] at e3 hget
        rw [List.getElem?_set_self (by rw [List.length_replicate, hstl]; omega), List.getElem?_replicate, if_pos (by rw [hstl]; omega)] at e3
        rw [List.getElem?_append_right (by rw [hstl]; omega), List.getElem?_replicate, if_pos (by rw [hstl]; omega)] at hget
        simp only [Option.getD_some] at e3 hget
        exact hget e3.symm

theorem fras_append : ∀ (f : Nat) (ls cs : List (List Int)), f < 18446744073709551616 → fras f (ls ++ cs) = fras f ls ++ fras ((f + ls.length) % 18446744073709551616) cs
  | f, [], cs, h => by simp [fras, Nat.mod_eq_of_lt h]
  | f, a :: ls, cs, h => by
    simp only [List.cons_append, fras, fras_append _ ls cs (Nat.mod_lt _ (by decide)), List.append_assoc, List.length_cons]
    rw [show ((f + 1) % 18446744073709551616 + ls.length) % 18446744073709551616 = (f + (ls.length + 1)) % 18446744073709551616 from by omega]
/-- The frames ahead of one, it, and those behind it. -/
theorem fras_cut (f : Nat) (bs : List (List Int)) (i : Nat) (hi : i < bs.length) (hf : f < 18446744073709551616) :
    fras f bs = fras f (bs.take i) ++ (fra ((f + i) % 18446744073709551616) (bs.getD i []) ++ fras (((f + i) % 18446744073709551616 + 1) % 18446744073709551616) (bs.drop (i + 1))) := by
  conv => lhs; rw [← List.take_append_drop i bs]
  rw [fras_append f _ _ hf, List.length_take, Nat.min_eq_left (by omega), List.drop_eq_getElem_cons hi]
  simp only [fras]
  congr 3
  simp [List.getD, List.getElem?_eq_getElem hi]
theorem eo_succ (bs : List (List Int)) (i : Nat) (hi : i < bs.length) : eo (bs.take (i + 1)) = eo (bs.take i) + 32 * nb (bs.getD i []).length := by
  rw [List.take_succ_eq_append_getElem hi, eo_append]
  simp [eo, List.getD, List.getElem?_eq_getElem hi]
theorem Okb.at {bs : List (List Int)} (h : Okb bs) (i : Nat) (hi : i < bs.length) : (bs.getD i []).length ≤ 65536 ∧ Byt (bs.getD i []) := by
  have : bs.getD i [] ∈ bs := by
    simp only [List.getD, List.getElem?_eq_getElem hi, Option.getD_some]
    exact List.getElem_mem hi
  exact h _ this
theorem Okb.drop {bs : List (List Int)} (h : Okb bs) (k : Nat) : Okb (bs.drop k) := fun c hc => h c (List.mem_of_mem_drop hc)

/-- What a byte that is another one does to frames. -/
theorem poke_all {bs : List (List Int)} {first i at_ : Nat} {z : Int} (ho : Okb bs) (hf : first + 100 < 18446744073709551616) (hi : i < bs.length) (hi2 : bs.length ≤ 20) (h1 : eo (bs.take i) ≤ at_) (h2 : at_ < eo (bs.take (i + 1))) (hz : 0 ≤ z ∧ z ≤ 255) (hne : (fras first bs).getD at_ 0 ≠ z) :
    Byt ((fras first bs).set at_ z) ∧ takA ((fras first bs).set at_ z) ((eo (bs.take i) : Nat) : Int) = none ∧ goes ((fras first bs).set at_ z) (bs.take i) 0 first = some (eo (bs.take i), first + i) ∧
      (i + 1 < bs.length → Late ((fras first bs).set at_ z) (eo (bs.take i)) (first + i)) := by
  have hbx : Byt ((fras first bs).set at_ z) := (fras_byt first bs ho).set _ hz
  have hcut := fras_cut first bs i hi (by omega)
  rw [Nat.mod_eq_of_lt (by omega : first + i < 18446744073709551616), Nat.mod_eq_of_lt (by omega : first + i + 1 < 18446744073709551616)] at hcut
  have hsu := eo_succ bs i hi
  obtain ⟨hbl, hbb⟩ := ho.at i hi
  have hpl : (fras first (bs.take i)).length = eo (bs.take i) := fras_len _ _
  have hfl := fra_len (first + i) (bs.getD i [])
  have hrest := fras_byt (first + i + 1) _ (ho.drop (i + 1))
  have hset : (fras first bs).set at_ z = fras first (bs.take i) ++ ((fra (first + i) (bs.getD i [])).set (at_ - eo (bs.take i)) z ++ fras (first + i + 1) (bs.drop (i + 1))) := by
    rw [hcut, List.set_append_right _ _ (by omega), hpl, List.set_append_left _ _ (by rw [hfl]; omega)]
  have h32 := eo_32 (bs.take i)
  generalize bs.getD i [] = b at *
  refine ⟨hbx, ?_, ?_, ?_⟩
  · unfold takA
    split
    · rw [Int.toNat_natCast, hset, List.drop_left' hpl]
      refine poke_tak (by omega) hbb hbl hrest (by omega) hz ?_
      rw [hcut] at hne
      simp only [List.getD] at hne ⊢
      rw [List.getElem?_append_right (by omega), hpl, List.getElem?_append_left (by rw [hfl]; omega)] at hne
      exact hne
    · rfl
  · have := goes_fras hbx (bs.take i) 0 first _ rfl (Nat.zero_le _) (by rw [List.drop_zero]; exact hset) (ho.take i) (by omega)
    rw [this, Nat.zero_add, List.length_take, Nat.min_eq_left (by omega), Nat.mod_eq_of_lt (by omega)]
  · intro hlast
    have hc2 := fras_cut (first + i + 1) (bs.drop (i + 1)) 0 (by simp; omega) (by omega)
    rw [List.take_zero, fras, List.nil_append, Nat.add_zero, Nat.mod_eq_of_lt (by omega : first + i + 1 < 18446744073709551616)] at hc2
    obtain ⟨hbl2, hbb2⟩ := (ho.drop (i + 1)).at 0 (by simp; omega)
    refine ⟨nb b.length, first + i + 1, (bs.drop (i + 1)).getD 0 [], ?_, by omega⟩
    refine takA_at hbx (rest := fras ((first + i + 1 + 1) % 18446744073709551616) ((bs.drop (i + 1)).drop (0 + 1))) (by omega) ?_ (by omega) hbb2 hbl2
    rw [hset, ← List.drop_drop, List.drop_left' hpl, List.drop_left' (by rw [List.length_set, hfl])]
    exact hc2
end Go.Proofs.Ytaibldodlbaknaa
