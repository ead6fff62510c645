/-
  What a torn end leaves of frames: plain mathematics.
-/
import Derived.Test.YtaibldodlbaknaaQ1
set_option linter.unusedVariables false
set_option linter.unusedSimpArgs false
namespace Go.Proofs.Ytaibldodlbaknaa
open Go.RowKit

/-- Bytes of which so many are as they were, and the rest is turned. -/
def tn (x : List Int) (m : Nat) : List Int := x.take m ++ (x.drop m).map tu
theorem tn_len (x : List Int) (m : Nat) : (tn x m).length = x.length := by
  unfold tn
  rw [List.length_append, List.length_map, ← List.length_append, List.take_append_drop]
theorem tn_byt {x : List Int} (h : Byt x) (m : Nat) : Byt (tn x m) := (h.take _).append (tu_byt (h.drop _))
theorem tn_get (x : List Int) (m i : Nat) : (tn x m)[i]? = (x[i]?).map fun v => if i < m then v else tu v := by
  unfold tn
  by_cases h : i < m
  · rw [List.getElem?_append]
    split
    · rename_i h2
      rw [List.getElem?_take_of_lt h]
      cases x[i]? <;> simp [h]
    · rename_i h2
      simp at h2
      have hx : x.length ≤ i := by omega
      rw [List.getElem?_map, List.getElem?_drop, List.getElem?_eq_none (by simp; omega), List.getElem?_eq_none hx]
      rfl
  · by_cases hm : m ≤ x.length
    · rw [List.getElem?_append_right (by simp; omega), List.getElem?_map, List.getElem?_drop, List.length_take, Nat.min_eq_left hm, show m + (i - m) = i from by omega]
      cases x[i]? <;> simp [h]
    · rw [List.getElem?_eq_none (by simp; omega), List.getElem?_eq_none (by omega)]
      rfl
theorem tn_at (x : List Int) (m i : Nat) (hi : i < x.length) : (tn x m).getD i 0 = if i < m then x.getD i 0 else tu (x.getD i 0) := by
  simp only [List.getD]
  rw [tn_get, List.getElem?_eq_getElem hi]
  rfl
theorem tn_drop (x : List Int) (m p : Nat) : (tn x m).drop p = tn (x.drop p) (m - p) := by
  apply List.ext_getElem?
  intro i
  rw [List.getElem?_drop, tn_get, tn_get, List.getElem?_drop]
  congr 1
  funext v
  by_cases h : p + i < m
  · rw [if_pos h, if_pos (by omega)]
  · rw [if_neg h, if_neg (by omega)]
theorem tn_take (x : List Int) (m k : Nat) : (tn x m).take k = tn (x.take k) m := by
  apply List.ext_getElem?
  intro i
  rw [tn_get, List.getElem?_take, List.getElem?_take]
  split
  · rw [tn_get]
  · rfl
theorem tn_append (x y : List Int) (m : Nat) : tn (x ++ y) m = tn x m ++ tn y (m - x.length) := by
  apply List.ext_getElem?
  intro i
  rw [tn_get]
  by_cases h : i < x.length
  · rw [List.getElem?_append_left h, List.getElem?_append_left (by rw [tn_len]; exact h), tn_get]
  · rw [List.getElem?_append_right (by omega), List.getElem?_append_right (by rw [tn_len]; omega), tn_len, tn_get]
    congr 1
    funext v
    by_cases h2 : i < m
    · rw [if_pos h2, if_pos (by omega)]
    · rw [if_neg h2, if_neg (by omega)]
theorem tn_all (x : List Int) (m : Nat) (h : x.length ≤ m) : tn x m = x := by
  unfold tn
  rw [List.take_of_length_le h, List.drop_eq_nil_of_le h, List.map_nil, List.append_nil]

/-- The pieces of blocks the last of which is turned from a place on. -/
theorem pcs_tn : ∀ (k : Nat) (x : List Int) (m : Nat), 1 ≤ k → x.length = 32 * k → 32 * (k - 1) < m → pcs k (tn x m) = tn (pcs k x) (m - k)
  | 0, _, _, h, _, _ => by omega
  | 1, x, m, _, hl, hm => by
    have e1 : (x.drop 1).length ≤ 31 := by simp; omega
    simp only [pcs, List.append_nil]
    rw [tn_drop, tn_take]
  | k + 2, x, m, _, hl, hm => by
    have ih := pcs_tn (k + 1) (x.drop 32) (m - 32) (by omega) (by simp; omega) (by omega)
    have hl31 : ((x.drop 1).take 31).length = 31 := by simp; omega
    have e1 : pcs (k + 2) (tn x m) = ((tn x m).drop 1).take 31 ++ pcs (k + 1) ((tn x m).drop 32) := rfl
    have e2 : pcs (k + 2) x = (x.drop 1).take 31 ++ pcs (k + 1) (x.drop 32) := rfl
    rw [e1, e2, tn_drop, tn_take, tn_drop, ih, tn_append, hl31, tn_all ((x.drop 1).take 31) (m - 1) (by rw [hl31]; omega), tn_all ((x.drop 1).take 31) (m - (k + 2)) (by rw [hl31]; omega), show m - (k + 2) - 31 = m - 32 - (k + 1) from by omega]

/-- A frame whose end is turned is none. -/
theorem torn_tak {seq : Nat} {body rest : List Int} {m : Nat} (hs : seq < 18446744073709551616) (hb : Byt body) (hl : body.length ≤ 65536) {y : List Int} (hy : Byt y) (n : Nat) (hyy : y = tn ((fra seq body ++ rest).take n) m) (hm0 : 0 < m) (hm : m < 32 * nb body.length) (hr : Byt rest) : tak y = none := by
  have hfl := fra_len seq body
  have hfb := fra_byt seq hb
  have hge := nb_ge body.length
  have hpos := nb_pos body.length
  obtain ⟨k1, k2⟩ := (lay_iff (nb body.length) 161 (st seq body) (fra seq body) hfl (by rw [st_len]; omega)).1 rfl
  refine tak_bad hy fun g => ?_
  have hn1 := nb_pos (nOf y)
  have hylen : y.length = ((fra seq body ++ rest).take n).length := by rw [hyy, tn_len]
  have hy32 : 32 ≤ y.length := by have := g.2.1; omega
  have hn32 : 32 ≤ n := by rw [hylen, List.length_take] at hy32; omega
  have hst : st seq body = sm (hd seq body.length) ++ (body ++ lo 4 (crc (sm (hd seq body.length) ++ body))) := by
    simp [st, sm, List.append_assoc]
  have h16 : (sm (hd seq body.length)).length = 16 := by rw [sm_len, hd_len]
  have hstl := st_len seq body
  -- the head, as it stands there
  have hhead : ((fra seq body).drop 1).take 16 = sm (hd seq body.length) := by
    have a2 := pcs_head (nb body.length) (fra seq body) hpos 0 16 (by omega) (by rw [hfl]; omega)
    rw [List.drop_zero, Nat.zero_add] at a2
    rw [← a2, k2, hst, List.append_assoc, List.take_left' h16]
  have hyhead : (y.drop 1).take 16 = tn (sm (hd seq body.length)) (m - 1) := by
    rw [hyy, tn_drop, tn_take, List.drop_take, List.take_take, Nat.min_eq_left (by omega), List.drop_append_of_le_length (by rw [hfl]; omega), List.take_append_of_le_length (by rw [List.length_drop, hfl]; omega), hhead]
  have hs16 : (sOf y).take 16 = (y.drop 1).take 16 := by
    have a1 := pcs_head (nb (nOf y)) y (nb_pos _) 0 16 (by omega) hy32
    rw [List.drop_zero, Nat.zero_add] at a1
    unfold sOf
    exact a1
  by_cases hhd : m < 17
  · have hg := g.2.2.2.1
    rw [hs16, hyhead] at hg
    exact torn_ends (hd_byt _ _) (by rw [h16]; omega) (by rw [h16]; omega) hg
  · have hyh2 : (y.drop 1).take 16 = sm (hd seq body.length) := by rw [hyhead, tn_all _ _ (by rw [h16]; omega)]
    have hn : nOf y = body.length := by
      have e1 : (y.drop 9).take 4 = (((y.drop 1).take 16).drop 8).take 4 := by
        rw [List.drop_take, List.take_take, Nat.min_eq_left (by omega), List.drop_drop]
      unfold nOf
      rw [e1, hyh2]
      unfold sm hd
      rw [List.append_assoc, List.drop_left' (lo_len _ _), List.take_left' (lo_len _ _), va_lo 4 _ (by
        have : (256 : Nat) ^ 4 = 4294967296 := by decide
        omega)]
    have hlen2 := g.2.1
    rw [hn] at hlen2
    -- all its blocks are there
    have hnK : 32 * nb body.length ≤ n := by rw [hylen, List.length_take] at hlen2; omega
    have hyt : y.take (32 * nb body.length) = tn (fra seq body) m := by
      rw [hyy, tn_take, List.take_take, Nat.min_eq_left hnK, List.take_left' hfl]
    have hkd := g.2.2.1
    rw [hn] at hkd
    have hlast : 32 * (nb body.length - 1) < m := by
      rcases Nat.lt_or_ge (32 * (nb body.length - 1)) m with q | q
      · exact q
      · exfalso
        have e1 := kds_at _ _ _ hkd (nb body.length - 1) (by omega)
        have e2 := kds_at _ _ _ k1 (nb body.length - 1) (by omega)
        have e3 : y.getD (32 * (nb body.length - 1)) 0 = tu ((fra seq body).getD (32 * (nb body.length - 1)) 0) := by
          have a1 : (y.take (32 * nb body.length)).getD (32 * (nb body.length - 1)) 0 = y.getD (32 * (nb body.length - 1)) 0 := by
            simp only [List.getD]
            rw [List.getElem?_take_of_lt (by omega)]
          rw [← a1, hyt, tn_at _ _ _ (by rw [hfl]; omega), if_neg (by omega)]
        rw [e3, e2] at e1
        unfold tu at e1
        split at e1 <;> omega
    have hso : sOf y = tn (st seq body ++ List.replicate (31 * nb body.length - (st seq body).length) 0) (m - nb body.length) := by
      unfold sOf
      rw [hn, ← pcs_take _ y _ (Nat.le_refl _), hyt, pcs_tn _ _ _ hpos hfl hlast, k2]
    have hml : m - nb body.length < 31 * nb body.length := by omega
    by_cases hz : body.length + 20 < 31 * nb body.length
    · -- noughts behind the end are turned
      have hg := g.2.2.2.2.1
      rw [hn] at hg
      have e3 := congrArg (fun l => l.getD (31 * nb body.length - 1 - (body.length + 20)) 0) hg
      simp only [List.getD, List.getElem?_drop, show body.length + 20 + (31 * nb body.length - 1 - (body.length + 20)) = 31 * nb body.length - 1 from by omega] at e3
      rw [List.getElem?_replicate, if_pos (by omega)] at e3
      have e4 := tn_at (st seq body ++ List.replicate (31 * nb body.length - (st seq body).length) 0) (m - nb body.length) (31 * nb body.length - 1) (by rw [List.length_append, List.length_replicate, hstl]; omega)
      rw [← hso, if_neg (by omega)] at e4
      simp only [List.getD] at e4
      rw [e3, List.getElem?_append_right (by rw [hstl]; omega), List.getElem?_replicate, if_pos (by rw [hstl]; omega)] at e4
      simp [tu] at e4
    · have hg := g.2.2.2.2.2
      have e5 : 31 * nb body.length - (st seq body).length = 0 := by rw [hstl]; omega
      rw [hn, hso, e5, List.replicate_zero, List.append_nil, List.take_of_length_le (by rw [tn_len, hstl]; exact Nat.le_refl _)] at hg
      exact torn_ends ((sm_byt (hd_byt _ _)).append hb) (m := m - nb body.length) (by rw [← st, hstl]; omega) (by rw [← st, hstl]; omega) hg

theorem eo_mono (bs : List (List Int)) {i j : Nat} (h : i ≤ j) : eo (bs.take i) ≤ eo (bs.take j) := by
  have := eo_take_le (bs.take j) i
  rwa [List.take_take, Nat.min_eq_left h] at this
/-- Which kinds stand where. -/
theorem kind_at : ∀ (bs : List (List Int)) (f q : Nat), Okb bs → q % 32 = 0 → q < eo bs → (∃ i, i < bs.length ∧ q = eo (bs.take i)) ∧ (fras f bs).getD q 0 = 161 ∨ (fras f bs).getD q 0 = 178
  | [], f, q, _, _, h => by simp [eo] at h
  | b :: bs, f, q, ho, hq, h => by
    have hfl := fra_len f b
    have hge := nb_ge b.length
    have hpos := nb_pos b.length
    obtain ⟨k1, _⟩ := (lay_iff (nb b.length) 161 (st f b) (fra f b) hfl (by rw [st_len]; omega)).1 rfl
    simp only [fras]
    by_cases hlt : q < 32 * nb b.length
    · have e := kds_at _ _ _ k1 (q / 32) (by omega)
      rw [show 32 * (q / 32) = q from by omega] at e
      have e2 : (fra f b ++ fras ((f + 1) % 18446744073709551616) bs).getD q 0 = (fra f b).getD q 0 := by
        simp only [List.getD]
        rw [List.getElem?_append_left (by omega)]
      rw [e2, e]
      by_cases h0 : q = 0
      · subst h0
        exact .inl ⟨⟨0, by simp, by simp [eo]⟩, by simp⟩
      · right
        rw [if_neg (by omega)]
    · have e2 : (fra f b ++ fras ((f + 1) % 18446744073709551616) bs).getD q 0 = (fras ((f + 1) % 18446744073709551616) bs).getD (q - 32 * nb b.length) 0 := by
        simp only [List.getD]
        rw [List.getElem?_append_right (by omega), hfl]
      rw [e2]
      simp only [eo] at h
      rcases kind_at bs ((f + 1) % 18446744073709551616) (q - 32 * nb b.length) ho.tail (by omega) (by omega) with ⟨⟨i, hi, hqi⟩, hk⟩ | hk
      · refine .inl ⟨⟨i + 1, by simp; omega, ?_⟩, hk⟩
        simp only [List.take_succ_cons, eo]
        omega
      · exact .inr hk

/-- What is told of frames whose end is cut off and turned. -/
theorem torn_all {bs : List (List Int)} {first n m v : Nat} (ho : Okb bs) (hf : first < 18446744073709551616) (hmn : m ≤ n) (hn : n ≤ eo bs) (hv : v ≤ bs.length) (h1 : eo (bs.take v) ≤ m) (h2 : v < bs.length → m < eo (bs.take (v + 1))) {x : List Int} (hx : x = tn ((fras first bs).take n) m) :
    Byt x ∧ goes x (bs.take v) 0 first = some (eo (bs.take v), (first + v) % 18446744073709551616) ∧ ∀ q : Nat, q % 32 = 0 → eo (bs.take v) ≤ q → takA x (q : Int) = none := by
  have hFb := fras_byt first bs ho
  have hFl := fras_len first bs
  have hxb : Byt x := by rw [hx]; exact tn_byt (hFb.take _) _
  have hxl : x.length = n := by rw [hx, tn_len, List.length_take, hFl, Nat.min_eq_left hn]
  refine ⟨hxb, ?_, ?_⟩
  · have hpre : x.take (eo (bs.take v)) = fras first (bs.take v) := by
      rw [hx, tn_take, List.take_take, Nat.min_eq_left (by omega), tn_all _ _ (by simp; omega)]
      have e : fras first bs = fras first (bs.take v) ++ fras ((first + (bs.take v).length) % 18446744073709551616) (bs.drop v) := by rw [← fras_append first _ _ hf, List.take_append_drop]
      rw [e, List.take_left' (fras_len _ _)]
    have := goes_fras hxb (bs.take v) 0 first (x.drop (eo (bs.take v))) rfl (Nat.zero_le _) (by rw [List.drop_zero, ← hpre, List.take_append_drop]) (ho.take v) hf
    rw [this, Nat.zero_add, List.length_take, Nat.min_eq_left hv]
  · intro q hq32 hq
    by_cases hqn : n ≤ q
    · exact takA_past hxb (by omega)
    unfold takA
    split
    · rw [Int.toNat_natCast]
      have hy : x.drop q = tn (((fras first bs).drop q).take (n - q)) (m - q) := by rw [hx, tn_drop, List.drop_take]
      have hyb : Byt (x.drop q) := hxb.drop q
      have hy0 : (x.drop q).getD 0 0 = if q < m then (fras first bs).getD q 0 else tu ((fras first bs).getD q 0) := by
        rw [hy, tn_at _ _ _ (by rw [List.length_take, List.length_drop, hFl]; omega)]
        have e : (((fras first bs).drop q).take (n - q)).getD 0 0 = (fras first bs).getD q 0 := by
          simp only [List.getD]
          rw [List.getElem?_take_of_lt (by omega), List.getElem?_drop, Nat.add_zero]
        rw [e]
        by_cases h : q < m
        · rw [if_pos h, if_pos (by omega)]
        · rw [if_neg h, if_neg (by omega)]
      rcases kind_at bs first q ho hq32 (by omega) with ⟨⟨i, hi, hqi⟩, hk⟩ | hk
      · by_cases hqm : q < m
        · have hvi : v ≤ i := by
            rcases Nat.lt_or_ge i v with hlt | hge
            · have a1 := eo_mono bs (show i + 1 ≤ v from hlt)
              have a2 := eo_succ bs i hi
              have a3 := nb_pos (bs.getD i []).length
              omega
            · exact hge
          have hiv : i = v := by
            rcases Nat.lt_or_ge v i with hlt | hge
            · have a1 := eo_mono bs (show v + 1 ≤ i from hlt)
              have a2 := h2 (by omega)
              omega
            · omega
          subst hiv
          have hsu := eo_succ bs i hi
          have hm2 := h2 hi
          have hcut := fras_cut first bs i hi hf
          obtain ⟨hbl, hbb⟩ := ho.at i hi
          have hdrop : (fras first bs).drop q = fra ((first + i) % 18446744073709551616) (bs.getD i []) ++ fras (((first + i) % 18446744073709551616 + 1) % 18446744073709551616) (bs.drop (i + 1)) := by
            rw [hcut, hqi, List.drop_left' (fras_len _ _)]
          rw [hdrop] at hy
          exact torn_tak (Nat.mod_lt _ (by decide)) hbb hbl hyb (n - q) hy (by omega) (by omega) (fras_byt _ _ (ho.drop _))
        · refine tak_kind hyb ?_
          rw [hy0, if_neg hqm, hk]
          unfold tu
          omega
      · refine tak_kind hyb ?_
        rw [hy0, hk]
        split
        · omega
        · unfold tu
          omega
    · rfl

/-- All of such bytes. -/
theorem all_torn {bs cs : List (List Int)} {first n m v a f : Nat} (ho : Okb bs) (hf : first < 18446744073709551616) (hmn : m ≤ n) (hn : n ≤ eo bs) (hv : v ≤ bs.length) (h1 : eo (bs.take v) ≤ m) (h2 : v < bs.length → m < eo (bs.take (v + 1))) {x : List Int} (hx : x = tn ((fras first bs).take n) m)
    (q1 : goes x cs 0 first = some (a, f)) (q2 : ∀ b, takA x (a : Int) ≠ some (f, b)) : cs = bs.take v ∧ a = eo (bs.take v) ∧ ¬ Late x a f := by
  obtain ⟨p1, p2, p3⟩ := torn_all ho hf hmn hn hv h1 h2 hx
  have h32 := eo_32 (bs.take v)
  obtain ⟨rfl, rfl, rfl⟩ := goes_det _ _ _ _ _ _ _ _ _ q1 p2 q2 (fun b => by rw [p3 _ h32 (Nat.le_refl _)]; simp)
  refine ⟨rfl, rfl, ?_⟩
  rintro ⟨i, seq, body, ht, _⟩
  rw [p3 _ (by omega) (by omega)] at ht
  cases ht
end Go.Proofs.Ytaibldodlbaknaa
