/-
  Frames as lists of bytes: plain mathematics.
-/
import Derived.Test.YtaibldodlbaknaaCrcSpec
set_option linter.unusedVariables false
set_option linter.unusedSimpArgs false
namespace Go.Proofs.Ytaibldodlbaknaa
open Go.RowKit

/-- So many bytes of a number, the lowest first. -/
def lo : Nat → Nat → List Int
  | 0, _ => []
  | k + 1, n => ((n % 256 : Nat) : Int) :: lo k (n / 256)
/-- The number of such bytes. -/
def va : List Int → Nat
  | [] => 0
  | x :: xs => x.toNat + 256 * va xs

theorem lo_len : ∀ (k n : Nat), (lo k n).length = k
  | 0, _ => rfl
  | k + 1, n => by simp [lo, lo_len k]
theorem lo_byt : ∀ (k n : Nat), Byt (lo k n)
  | 0, _ => Byt.nil
  | k + 1, n => Byt.cons (by omega) (lo_byt k _)
theorem va_lo : ∀ (k n : Nat), n < 256 ^ k → va (lo k n) = n
  | 0, n, h => by simp at h; subst h; rfl
  | k + 1, n, h => by
    have h2 : n / 256 < 256 ^ k := by rw [Nat.pow_succ] at h; omega
    simp only [lo, va, va_lo k _ h2, Int.toNat_natCast]
    omega
theorem lo_va : ∀ (xs : List Int), Byt xs → lo xs.length (va xs) = xs
  | [], _ => rfl
  | x :: xs, h => by
    have hx := h x (List.mem_cons_self ..)
    have hs : Byt xs := fun y hy => h y (List.mem_cons_of_mem _ hy)
    have e1 : (x.toNat + 256 * va xs) % 256 = x.toNat := by omega
    have e2 : (x.toNat + 256 * va xs) / 256 = va xs := by omega
    simp only [List.length_cons, lo, va, e1, e2, lo_va xs hs]
    congr 1
    omega
theorem va_lt : ∀ (xs : List Int), Byt xs → va xs < 256 ^ xs.length
  | [], _ => by simp [va]
  | x :: xs, h => by
    have hx := h x (List.mem_cons_self ..)
    have hs : Byt xs := fun y hy => h y (List.mem_cons_of_mem _ hy)
    have := va_lt xs hs
    simp only [List.length_cons, va, Nat.pow_succ]
    omega
theorem lo_inj {k n m : Nat} (hn : n < 256 ^ k) (hm : m < 256 ^ k) (h : lo k n = lo k m) : n = m := by rw [← va_lo k n hn, ← va_lo k m hm, h]
theorem va_inj {xs ys : List Int} (hx : Byt xs) (hy : Byt ys) (hl : xs.length = ys.length) (h : va xs = va ys) : xs = ys := by rw [← lo_va xs hx, ← lo_va ys hy, hl, h]
theorem va_snoc : ∀ (xs : List Int) (x : Int), va (xs ++ [x]) = va xs + x.toNat * 256 ^ xs.length
  | [], x => by simp [va]
  | y :: ys, x => by
    simp only [List.cons_append, va, va_snoc ys x, List.length_cons, Nat.pow_succ]
    rw [Nat.mul_add, Nat.mul_comm (256 ^ ys.length) 256, ← Nat.mul_assoc, ← Nat.mul_assoc, Nat.mul_comm 256 x.toNat]
    omega
theorem crc_lt {xs : List Int} (h : Byt xs) : crc xs < 4294967296 := xor_lt (cl_lt (by decide) h) (by decide)

/-! ### Bytes with their sum behind them -/
/-- Bytes and their sum. -/
def sm (s : List Int) : List Int := s ++ lo 4 (crc s)
theorem sm_len (s : List Int) : (sm s).length = s.length + 4 := by simp [sm, lo_len]
theorem sm_byt {s : List Int} (h : Byt s) : Byt (sm s) := h.append (lo_byt _ _)
/-- Is a list bytes with their sum behind them? -/
def Ends (s : List Int) : Prop := 4 ≤ s.length ∧ va (s.drop (s.length - 4)) = crc (s.take (s.length - 4))
theorem ends_iff {s : List Int} (h : Byt s) : Ends s ↔ ∃ t, Byt t ∧ s = sm t := by
  constructor
  · rintro ⟨h1, h2⟩
    refine ⟨s.take (s.length - 4), h.take _, ?_⟩
    have e : lo 4 (crc (s.take (s.length - 4))) = s.drop (s.length - 4) := by
      rw [← h2]
      have := lo_va (s.drop (s.length - 4)) (h.drop _)
      rwa [List.length_drop, show s.length - (s.length - 4) = 4 from by omega] at this
    unfold sm
    rw [e, List.take_append_drop]
  · rintro ⟨t, ht, rfl⟩
    have hl := sm_len t
    refine ⟨by omega, ?_⟩
    rw [hl, show t.length + 4 - 4 = t.length from by omega]
    unfold sm
    rw [List.drop_left, List.take_left, va_lo 4 _ (crc_lt ht)]

/-- The twelve bytes of a head, and the sixteen. -/
def hd (seq n : Nat) : List Int := lo 8 seq ++ lo 4 n
theorem hd_len (seq n : Nat) : (hd seq n).length = 12 := by simp [hd, lo_len]
theorem hd_byt (seq n : Nat) : Byt (hd seq n) := (lo_byt _ _).append (lo_byt _ _)
/-- A frame's bytes, not yet in blocks. -/
def st (seq : Nat) (body : List Int) : List Int := sm (sm (hd seq body.length) ++ body)
theorem st_len (seq : Nat) (body : List Int) : (st seq body).length = body.length + 20 := by simp [st, sm_len, hd_len]; omega
theorem st_byt (seq : Nat) {body : List Int} (h : Byt body) : Byt (st seq body) := sm_byt ((sm_byt (hd_byt _ _)).append h)

/-- How many blocks. -/
def nb (n : Nat) : Nat := (n + 20 + 30) / 31
/-- Bytes cut into so many blocks. -/
def lay : Nat → Int → List Int → List Int
  | 0, _, _ => []
  | k + 1, kd, s => (kd :: (s.take 31 ++ List.replicate (31 - (s.take 31).length) 0)) ++ lay k 178 (s.drop 31)
theorem lay_len : ∀ (k : Nat) (kd : Int) (s : List Int), (lay k kd s).length = 32 * k
  | 0, _, _ => rfl
  | k + 1, kd, s => by
    simp only [lay, List.length_append, List.length_cons, lay_len k, List.length_replicate, List.length_take]
    omega
theorem lay_byt : ∀ (k : Nat) (kd : Int) (s : List Int), 0 ≤ kd ∧ kd ≤ 255 → Byt s → Byt (lay k kd s)
  | 0, _, _, _, _ => Byt.nil
  | k + 1, kd, s, h, hs => by
    refine Byt.append (Byt.cons h ((hs.take _).append ?_)) (lay_byt k 178 _ (by decide) (hs.drop _))
    intro y hy
    have := List.eq_of_mem_replicate hy
    omega
/-- What lies in so many blocks. -/
def pcs : Nat → List Int → List Int
  | 0, _ => []
  | k + 1, x => (x.drop 1).take 31 ++ pcs k (x.drop 32)
/-- Are the blocks' kinds right? -/
def kds : Nat → Int → List Int → Bool
  | 0, _, _ => true
  | k + 1, kd, x => x.getD 0 0 == kd && kds k 178 (x.drop 32)
theorem pcs_len : ∀ (k : Nat) (x : List Int), 32 * k ≤ x.length → (pcs k x).length = 31 * k
  | 0, _, _ => rfl
  | k + 1, x, h => by
    have := pcs_len k (x.drop 32) (by simp; omega)
    simp only [pcs, List.length_append, List.length_take, List.length_drop, this]
    omega
theorem pcs_byt : ∀ (k : Nat) (x : List Int), Byt x → Byt (pcs k x)
  | 0, _, _ => Byt.nil
  | k + 1, x, h => ((h.drop _).take _).append (pcs_byt k _ (h.drop _))
theorem pcs_snoc : ∀ (k : Nat) (x : List Int), pcs (k + 1) x = pcs k x ++ ((x.drop (32 * k)).drop 1).take 31
  | 0, x => by simp [pcs]
  | k + 1, x => by
    rw [pcs, pcs_snoc k (x.drop 32), pcs, List.append_assoc]
    simp only [List.drop_drop]
    rw [show 32 + 32 * k + 1 = 32 * (k + 1) + 1 from by omega]
theorem kds_snoc : ∀ (k : Nat) (kd : Int) (x : List Int), kds (k + 1) kd x = (kds k kd x && (x.drop (32 * k)).getD 0 0 == (if k = 0 then kd else 178))
  | 0, kd, x => by simp [kds]
  | k + 1, kd, x => by
    rw [kds, kds_snoc k 178 (x.drop 32), kds, Bool.and_assoc]
    congr 2
    rw [List.drop_drop, show 32 + 32 * k = 32 * (k + 1) from by omega]
    split <;> simp
theorem kds_at : ∀ (k : Nat) (kd : Int) (x : List Int), kds k kd x = true → ∀ j, j < k → x.getD (32 * j) 0 = if j = 0 then kd else 178
  | 0, _, _, _, j, hj => by omega
  | k + 1, kd, x, h, j, hj => by
    simp only [kds, Bool.and_eq_true, beq_iff_eq] at h
    cases j with
    | zero => simpa using h.1
    | succ j =>
      have := kds_at k 178 _ h.2 j (by omega)
      rw [if_neg (by omega)]
      simp only [List.getD, List.getElem?_drop] at this ⊢
      rw [show 32 * (j + 1) = 32 + 32 * j from by omega, this]
      simp

/-- Blocks and what lies in them are one to one. -/
theorem lay_iff : ∀ (k : Nat) (kd : Int) (s x : List Int), x.length = 32 * k → s.length ≤ 31 * k →
    (lay k kd s = x ↔ kds k kd x = true ∧ pcs k x = s ++ List.replicate (31 * k - s.length) 0)
  | 0, kd, s, x, h, hs => by
    obtain rfl : x = [] := List.eq_nil_of_length_eq_zero (by omega)
    obtain rfl : s = [] := List.eq_nil_of_length_eq_zero (by omega)
    simp [lay, kds, pcs]
  | k + 1, kd, s, x, h, hs => by
    have hx : x = x.getD 0 0 :: (x.drop 1).take 31 ++ x.drop 32 := by
      match x, h with
      | y :: ys, h =>
        simp only [List.getD_cons_zero, List.drop_succ_cons, List.drop_zero, List.cons_append]
        rw [show ys.drop 31 = ys.drop 31 from rfl, List.take_append_drop]
    have hl31 : ((x.drop 1).take 31).length = 31 := by simp; omega
    have ih := lay_iff k 178 (s.drop 31) (x.drop 32) (by simp; omega) (by simp; omega)
    have hpl := pcs_len k (x.drop 32) (by simp; omega)
    constructor
    · intro e
      rw [hx] at e
      simp only [lay, List.cons_append, List.cons.injEq] at e
      obtain ⟨e1, e2⟩ := e
      have hla : (s.take 31 ++ List.replicate (31 - (s.take 31).length) 0).length = ((x.drop 1).take 31).length := by
        rw [hl31]
        simp
        omega
      obtain ⟨e3, e4⟩ := List.append_inj e2 hla
      obtain ⟨i1, i2⟩ := ih.1 e4
      refine ⟨by simp only [kds, Bool.and_eq_true, beq_iff_eq]; exact ⟨e1.symm, i1⟩, ?_⟩
      rw [pcs, ← e3, i2]
      by_cases hs31 : s.length ≤ 31
      · rw [List.take_of_length_le hs31, List.drop_eq_nil_of_le hs31]
        simp only [List.nil_append, List.length_nil, List.append_assoc, Nat.sub_zero, List.replicate_append_replicate]
        congr 2
        omega
      · have ht : (s.take 31).length = 31 := by simp; omega
        rw [ht]
        simp only [Nat.sub_self, List.replicate_zero, List.append_nil, List.length_drop]
        rw [← List.append_assoc, List.take_append_drop]
        congr 2
        omega
    · rintro ⟨e1, e2⟩
      simp only [kds, Bool.and_eq_true, beq_iff_eq] at e1
      have key : (x.drop 1).take 31 = s.take 31 ++ List.replicate (31 - (s.take 31).length) 0 ∧ pcs k (x.drop 32) = s.drop 31 ++ List.replicate (31 * k - (s.drop 31).length) 0 := by
        refine List.append_inj ?_ (by rw [hl31]; simp; omega)
        rw [show (x.drop 1).take 31 ++ pcs k (x.drop 32) = pcs (k + 1) x from rfl, e2]
        by_cases hs31 : s.length ≤ 31
        · rw [List.take_of_length_le hs31, List.drop_eq_nil_of_le hs31]
          simp only [List.nil_append, List.length_nil, List.append_assoc, Nat.sub_zero, List.replicate_append_replicate]
          congr 2
          omega
        · have ht : (s.take 31).length = 31 := by simp; omega
          rw [ht]
          simp only [Nat.sub_self, List.replicate_zero, List.append_nil, List.length_drop]
          rw [← List.append_assoc, List.take_append_drop]
          congr 2
          omega
      have e4 := ih.2 ⟨e1.2, key.2⟩
      conv => rhs; rw [hx]
      rw [lay, e4, ← key.1, e1.1]

/-! ### Which frame stands at the head of bytes -/
/-- How long a body the head tells of. -/
def nOf (x : List Int) : Nat := va ((x.drop 9).take 4)
def sOf (x : List Int) : List Int := pcs (nb (nOf x)) x
def seqOf (x : List Int) : Nat := va ((sOf x).take 8)
def bodyOf (x : List Int) : List Int := ((sOf x).drop 16).take (nOf x)
/-- A frame. -/
def fra (seq : Nat) (body : List Int) : List Int := lay (nb body.length) 161 (st seq body)
/-- The frame with which bytes begin. -/
def tak (x : List Int) : Option (Nat × List Int) :=
  if nOf x ≤ 65536 ∧ 32 * nb (nOf x) ≤ x.length ∧ fra (seqOf x) (bodyOf x) = x.take (32 * nb (nOf x)) then some (seqOf x, bodyOf x) else none

theorem nb_ge (n : Nat) : n + 20 ≤ 31 * nb n := by unfold nb; omega
theorem nb_lt (n : Nat) : 31 * nb n < n + 51 := by unfold nb; omega
theorem nb_pos (n : Nat) : 1 ≤ nb n := by unfold nb; omega
theorem fra_len (seq : Nat) (body : List Int) : (fra seq body).length = 32 * nb body.length := lay_len _ _ _
theorem fra_byt (seq : Nat) {body : List Int} (h : Byt body) : Byt (fra seq body) := lay_byt _ _ _ (by decide) (st_byt _ h)

theorem pcs_head (k : Nat) (x : List Int) (hk : 1 ≤ k) (a b : Nat) (h : a + b ≤ 31) (hx : 32 ≤ x.length) : ((pcs k x).drop a).take b = (x.drop (a + 1)).take b := by
  obtain ⟨k, rfl⟩ : ∃ j, k = j + 1 := ⟨k - 1, by omega⟩
  rw [pcs, List.drop_append_of_le_length (by simp; omega), List.take_append_of_le_length (by simp; omega), List.drop_take, List.drop_drop, List.take_take, Nat.min_eq_left (by omega), Nat.add_comm 1 a]
theorem pcs_take : ∀ (k : Nat) (x : List Int) (m : Nat), 32 * k ≤ m → pcs k (x.take m) = pcs k x
  | 0, _, _, _ => rfl
  | k + 1, x, m, h => by
    rw [pcs, pcs, List.drop_take, List.drop_take, List.take_take, Nat.min_eq_left (by omega), pcs_take k _ _ (by omega)]
theorem kds_take : ∀ (k : Nat) (kd : Int) (x : List Int) (m : Nat), 32 * k ≤ m → kds k kd (x.take m) = kds k kd x
  | 0, _, _, _, _ => rfl
  | k + 1, kd, x, m, h => by
    rw [kds, kds, List.drop_take, kds_take k _ _ _ (by omega)]
    congr 2
    simp only [List.getD]
    rw [List.getElem?_take_of_lt (by omega)]

/-- What makes bytes begin with a frame, test by test. -/
def Good (x : List Int) : Prop :=
  nOf x ≤ 65536 ∧ 32 * nb (nOf x) ≤ x.length ∧ kds (nb (nOf x)) 161 x = true ∧ Ends ((sOf x).take 16) ∧ (sOf x).drop (nOf x + 20) = List.replicate (31 * nb (nOf x) - (nOf x + 20)) 0 ∧ Ends ((sOf x).take (nOf x + 20))

theorem bodyOf_len {x : List Int} (h : 32 * nb (nOf x) ≤ x.length) : (bodyOf x).length = nOf x := by
  have h1 := pcs_len _ _ h
  have h2 := nb_ge (nOf x)
  unfold bodyOf sOf
  simp only [List.length_take, List.length_drop, h1]
  omega
theorem seqOf_lt {x : List Int} (h : Byt x) : seqOf x < 18446744073709551616 := by
  have h1 := va_lt ((sOf x).take 8) ((pcs_byt _ _ h).take 8)
  have h2 : 256 ^ ((sOf x).take 8).length ≤ 256 ^ 8 := Nat.pow_le_pow_right (by decide) (by simp; omega)
  have h3 : (256 : Nat) ^ 8 = 18446744073709551616 := by decide
  unfold seqOf
  omega
theorem bodyOf_byt {x : List Int} (h : Byt x) : Byt (bodyOf x) := ((pcs_byt _ _ h).drop _).take _

theorem good_tak {x : List Int} (hb : Byt x) (h : Good x) : fra (seqOf x) (bodyOf x) = x.take (32 * nb (nOf x)) := by
  obtain ⟨h1, h2, h3, h4, h5, h6⟩ := h
  have hl := bodyOf_len h2
  have hp := pcs_len _ _ h2
  have hg := nb_ge (nOf x)
  have hsb : Byt (sOf x) := pcs_byt _ _ hb
  have hsl : (sOf x).length = 31 * nb (nOf x) := hp
  unfold fra
  rw [hl]
  refine (lay_iff _ _ _ _ (by simp; omega) (by rw [st_len, hl]; omega)).2 ⟨by rw [kds_take _ _ _ _ (Nat.le_refl _)]; exact h3, ?_⟩
  rw [pcs_take _ _ _ (Nat.le_refl _), st_len, hl]
  show sOf x = _
  conv => lhs; rw [← List.take_append_drop (nOf x + 20) (sOf x), h5]
  congr 1
  obtain ⟨t, _, e1⟩ := (ends_iff (hsb.take _)).1 h6
  obtain ⟨u, _, e2⟩ := (ends_iff (hsb.take _)).1 h4
  have tl : t.length = nOf x + 16 := by
    have := congrArg List.length e1
    rw [sm_len, List.length_take] at this
    omega
  have ul : u.length = 12 := by
    have := congrArg List.length e2
    rw [sm_len, List.length_take] at this
    omega
  have et : t = (sOf x).take (nOf x + 16) := by
    have := congrArg (List.take (nOf x + 16)) e1
    rw [List.take_take, Nat.min_eq_left (by omega), sm, ← tl, List.take_left] at this
    rw [← tl]
    exact this.symm
  have eu : u = (sOf x).take 12 := by
    have := congrArg (List.take 12) e2
    rw [List.take_take, Nat.min_eq_left (by omega), sm, ← ul, List.take_left] at this
    rw [← ul]
    exact this.symm
  have eh : hd (seqOf x) (bodyOf x).length = u := by
    rw [hl, eu, hd]
    have e8 := lo_va ((sOf x).take 8) (hsb.take _)
    have e4 := lo_va (((sOf x).drop 8).take 4) ((hsb.drop _).take _)
    have l8 : ((sOf x).take 8).length = 8 := by simp; omega
    have l4 : (((sOf x).drop 8).take 4).length = 4 := by simp; omega
    rw [l8] at e8
    rw [l4] at e4
    have en : va (((sOf x).drop 8).take 4) = nOf x := by
      unfold sOf nOf
      rw [pcs_head _ _ (nb_pos _) 8 4 (by omega) (by have := nb_pos (nOf x); unfold nOf at *; omega)]
    rw [en] at e4
    unfold seqOf
    rw [e8, e4, ← List.take_add]
  unfold st
  rw [e1, eh]
  congr 1
  rw [← e2, et]
  unfold bodyOf
  rw [← List.take_add, Nat.add_comm]

theorem tak_good {x : List Int} (hb : Byt x) (h : Good x) : tak x = some (seqOf x, bodyOf x) := by
  unfold tak
  rw [if_pos ⟨h.1, h.2.1, good_tak hb h⟩]

/-- A frame at the head of bytes is told. -/
theorem fra_good {x : List Int} {seq : Nat} {body : List Int} (hs : seq < 18446744073709551616) (hb : Byt body) (hl : body.length ≤ 65536) (hx : 32 * nb body.length ≤ x.length) (h : fra seq body = x.take (32 * nb body.length)) :
    Good x ∧ seqOf x = seq ∧ bodyOf x = body ∧ nOf x = body.length := by
  have hg := nb_ge body.length
  have hp := nb_pos body.length
  obtain ⟨k1, k2⟩ := (lay_iff _ _ _ _ (by simp; omega) (by rw [st_len]; omega)).1 h
  rw [kds_take _ _ _ _ (Nat.le_refl _)] at k1
  rw [pcs_take _ _ _ (Nat.le_refl _)] at k2
  have hst : st seq body = lo 8 seq ++ (lo 4 body.length ++ (lo 4 (crc (hd seq body.length)) ++ (body ++ lo 4 (crc (sm (hd seq body.length) ++ body))))) := by
    simp [st, sm, hd, List.append_assoc]
  have hn : nOf x = body.length := by
    unfold nOf
    rw [← pcs_head (nb body.length) x hp 8 4 (by omega) (by omega), k2, hst, List.append_assoc, List.drop_left' (lo_len _ _), List.append_assoc, List.take_left' (lo_len _ _), va_lo 4 _ (by
      have : (256 : Nat) ^ 4 = 4294967296 := by decide
      omega)]
  have hso : sOf x = st seq body ++ List.replicate (31 * nb body.length - (st seq body).length) 0 := by unfold sOf; rw [hn]; exact k2
  have t20 : (sOf x).take (body.length + 20) = st seq body := by rw [hso, List.take_left' (st_len _ _)]
  have t16 : (sOf x).take 16 = sm (hd seq body.length) := by
    have hsl : (sm (hd seq body.length)).length = 16 := by rw [sm_len, hd_len]
    rw [hso, st, sm, List.append_assoc, List.append_assoc, List.append_assoc, List.take_left' hsl]
  refine ⟨⟨by omega, by rw [hn]; exact hx, by rw [hn]; exact k1, ?_, ?_, ?_⟩, ?_, ?_, hn⟩
  · rw [t16]
    exact (ends_iff (sm_byt (hd_byt _ _))).2 ⟨_, hd_byt _ _, rfl⟩
  · rw [hso, hn, List.drop_left' (st_len _ _), st_len]
  · rw [hn, t20]
    exact (ends_iff (st_byt _ hb)).2 ⟨_, (sm_byt (hd_byt _ _)).append hb, rfl⟩
  · unfold seqOf
    rw [hso, hst, List.append_assoc, List.take_left' (lo_len _ _), va_lo 8 _ (by
      have : (256 : Nat) ^ 8 = 18446744073709551616 := by decide
      omega)]
  · unfold bodyOf
    have hsl : (sm (hd seq body.length)).length = 16 := by rw [sm_len, hd_len]
    rw [hn, hso, st, sm, List.append_assoc, List.append_assoc, List.append_assoc, List.drop_left' hsl, List.take_left' rfl]

theorem tak_bad {x : List Int} (hb : Byt x) (h : ¬ Good x) : tak x = none := by
  unfold tak
  rw [if_neg]
  rintro ⟨h1, h2, h3⟩
  have hl := bodyOf_len h2
  exact h (fra_good (seqOf_lt hb) (bodyOf_byt hb) (by omega) (by rw [hl]; exact h2) (by rw [hl]; exact h3)).1
theorem tak_fra {x : List Int} (hb : Byt x) {seq : Nat} {body : List Int} (hs : seq < 18446744073709551616) (hbb : Byt body) (hl : body.length ≤ 65536) (h : fra seq body <+: x) : tak x = some (seq, body) := by
  obtain ⟨r, rfl⟩ := h
  have hf := fra_len seq body
  obtain ⟨g1, g2, g3, _⟩ := fra_good (x := fra seq body ++ r) hs hbb hl (by simp; omega) (by rw [List.take_left' hf])
  rw [tak_good hb g1, g2, g3]
theorem tak_some {x : List Int} (hb : Byt x) {seq : Nat} {body : List Int} (h : tak x = some (seq, body)) :
    seq < 18446744073709551616 ∧ Byt body ∧ body.length ≤ 65536 ∧ fra seq body = x.take (32 * nb body.length) ∧ 32 * nb body.length ≤ x.length ∧ Good x ∧ seq = seqOf x ∧ body = bodyOf x ∧ nOf x = body.length := by
  by_cases hg : Good x
  · rw [tak_good hb hg] at h
    simp only [Option.some.injEq, Prod.mk.injEq] at h
    obtain ⟨rfl, rfl⟩ := h
    have hl := bodyOf_len hg.2.1
    have h1 := hg.1
    exact ⟨seqOf_lt hb, bodyOf_byt hb, by omega, by rw [hl]; exact good_tak hb hg, by rw [hl]; exact hg.2.1, hg, rfl, rfl, hl.symm⟩
  · rw [tak_bad hb hg] at h
    cases h
theorem tak_short {x : List Int} (hb : Byt x) (h : x.length < 32) : tak x = none := tak_bad hb fun g => by
  have := g.2.1
  have := nb_pos (nOf x)
  omega
theorem tak_kind {x : List Int} (hb : Byt x) (h : x.getD 0 0 ≠ 161) : tak x = none := tak_bad hb fun g => by
  have := kds_at _ _ _ g.2.2.1 0 (nb_pos _)
  simp only [Nat.mul_zero, if_true] at this
  exact h this
end Go.Proofs.Ytaibldodlbaknaa
