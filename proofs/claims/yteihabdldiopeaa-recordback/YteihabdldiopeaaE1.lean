/-
  What is right is read from its bytes as it is; bytes that are read are those of what is told: plain mathematics.
-/
import Derived.Test.YteihabdldiopeaaE0
set_option linter.unusedVariables false
set_option linter.unusedSimpArgs false
namespace Go.Proofs.Yteihabdldiopeaa
open Go.RowKit

/-- From one place to another just these bytes stand. -/
def Got (xs : List Int) (n m : Nat) (b : List Int) : Prop := n ≤ m ∧ m ≤ xs.length ∧ xs.take m = xs.take n ++ b
theorem Got.refl {xs : List Int} {n : Nat} (h : n ≤ xs.length) : Got xs n n [] := ⟨Nat.le_refl _, h, by simp⟩
theorem Got.trans {xs : List Int} {n m k : Nat} {a b : List Int} (h : Got xs n m a) (g : Got xs m k b) : Got xs n k (a ++ b) :=
  ⟨Nat.le_trans h.1 g.1, g.2.1, by rw [g.2.2, h.2.2, List.append_assoc]⟩
theorem Got.of_drop {xs : List Int} {n m : Nat} {b : List Int} (h1 : n ≤ m) (h2 : m ≤ xs.length) (h3 : b = (xs.take m).drop n) : Got xs n m b := by
  refine ⟨h1, h2, ?_⟩
  rw [h3]
  conv => lhs; rw [← List.take_append_drop n (xs.take m)]
  rw [List.take_take, Nat.min_eq_left h1]

theorem sb_str {ys : List Int} (h : Byt ys) : sb (strOfNums ys) = ys := str_inj (sb_byt _) h (str_sb _)
theorem str_size {ys : List Int} (h : Byt ys) : (strOfNums ys).size = ys.length := by
  rw [← sb_length, sb_str h]

theorem rnum_b (xs : List Int) (most : Int) (p : Nat) : rnum xs most (.bad p) = (0, .bad p) := rfl
theorem rtxt_b (xs : List Int) (most : Int) (p : Nat) : rtxt xs most (.bad p) = (⟨#[]⟩, .bad p) := rfl
theorem no_num {xs : List Int} {most v : Int} {p n : Nat} (h : (v, Rs.at n) = rnum xs most (.bad p)) : False := by
  rw [rnum_b] at h
  cases (Prod.mk.inj h).2
theorem no_txt {xs : List Int} {most : Int} {v : ByteArray} {p n : Nat} (h : (v, Rs.at n) = rtxt xs most (.bad p)) : False := by
  rw [rtxt_b] at h
  cases (Prod.mk.inj h).2

section
variable {xs : List Int} (hb : Byt xs)
include hb
theorem rnum_got {most v : Int} {n m : Nat} (h : rnum xs most (.at n) = (v, .at m)) : Got xs n m (enc v) ∧ 0 ≤ v ∧ v ≤ most := by
  simp only [rnum] at h
  cases ht : tk xs n with
  | none => rw [ht] at h; cases (Prod.mk.inj h).2
  | some q =>
    obtain ⟨v', nx⟩ := q
    rw [ht] at h
    simp only [] at h
    split at h
    · obtain ⟨a, b, ha, rfl, hab, hbl, h0, h1, he⟩ := tk_spec hb ht
      obtain ⟨rfl, h2⟩ := Prod.mk.inj h
      simp only [Rs.at.injEq] at h2
      obtain rfl : b = m := by omega
      obtain rfl : a = n := by omega
      exact ⟨Got.of_drop (by omega) hbl he, h0, by assumption⟩
    · cases (Prod.mk.inj h).2
theorem rtxt_got {most : Int} {t : ByteArray} {n m : Nat} (h : rtxt xs most (.at n) = (t, .at m)) : Got xs n m (tx t) ∧ (t.size : Int) ≤ most := by
  simp only [rtxt, tt] at h
  cases ht : tk xs n with
  | none => rw [ht] at h; cases (Prod.mk.inj h).2
  | some q =>
    obtain ⟨v, nx⟩ := q
    rw [ht] at h
    simp only [] at h
    obtain ⟨a, b, ha, rfl, hab, hbl, h0, h1, he⟩ := tk_spec hb ht
    obtain rfl : a = n := by omega
    by_cases hc : most < 0 ∨ most < v ∨ (xs.length : Int) - b < v
    · rw [if_pos hc] at h
      cases (Prod.mk.inj h).2
    · rw [if_neg hc] at h
      obtain ⟨rfl, h2⟩ := Prod.mk.inj h
      simp only [Rs.at.injEq] at h2
      obtain ⟨k, rfl⟩ : ∃ k : Nat, v = (k : Int) := ⟨v.toNat, by omega⟩
      have e1 : ((b : Int) + (k : Int)).toNat = b + k := by omega
      rw [e1] at h2
      simp only [e1, Int.toNat_natCast] at *
      subst h2
      have hyb : Byt ((xs.take (b + k)).drop b) := (hb.take _).drop _
      have hyl : ((xs.take (b + k)).drop b).length = k := by simp; omega
      refine ⟨?_, by rw [str_size hyb, hyl]; omega⟩
      unfold tx
      rw [str_size hyb, hyl, sb_str hyb, he]
      exact (Got.of_drop (by omega) (by omega) rfl).trans (Got.of_drop (by omega) (by omega) rfl)
omit hb in
theorem rmark_got {lo hi v : Int} {n m : Nat} (h : rmark xs lo hi (.at n) = (v, .at m)) : Got xs n m [v] ∧ lo ≤ v ∧ v ≤ hi := by
  simp only [rmark] at h
  by_cases hc : n < xs.length ∧ lo ≤ xs.getD n 0 ∧ xs.getD n 0 ≤ hi
  · rw [if_pos hc] at h
    obtain ⟨rfl, h2⟩ := Prod.mk.inj h
    simp only [Rs.at.injEq] at h2
    subst h2
    refine ⟨⟨by omega, by omega, ?_⟩, hc.2⟩
    rw [List.take_add_one]
    simp [List.getD, List.getElem?_eq_getElem hc.1]
  · rw [if_neg hc] at h
    cases (Prod.mk.inj h).2
omit hb in
theorem state_cases (s : Rs) : (∃ n, s = .at n) ∨ ∃ p, s = .bad p := by
  cases s with
  | «at» n => exact .inl ⟨n, rfl⟩
  | bad p => exact .inr ⟨p, rfl⟩
theorem rwr_got {w : Wr} {n m : Nat} (h : rwr xs (.at n) = (w, .at m)) : Got xs n m (wb w) := by
  unfold rwr at h
  obtain ⟨Q1, e1⟩ : ∃ Q, Q = rmark xs 0 1 (.at n) := ⟨_, rfl⟩
  rw [← e1] at h
  obtain ⟨x, s1⟩ := Q1
  simp only [] at h
  rcases state_cases s1 with ⟨n1, rfl⟩ | ⟨p, rfl⟩
  · obtain ⟨g1, hl, hh⟩ := rmark_got e1.symm
    obtain ⟨Q2, e2⟩ : ∃ Q, Q = rtxt xs 16 (.at n1) := ⟨_, rfl⟩
    rw [← e2] at h
    obtain ⟨k, s2⟩ := Q2
    simp only [] at h
    rcases state_cases s2 with ⟨n2, rfl⟩ | ⟨p, rfl⟩
    · obtain ⟨g2, _⟩ := rtxt_got hb e2.symm
      by_cases hx : x = 1
      · rw [if_pos hx] at h
        obtain ⟨rfl, h2⟩ := Prod.mk.inj h
        simp only [Rs.at.injEq] at h2
        subst h2
        subst hx
        have := g1.trans g2
        simpa [wb] using this
      · rw [if_neg hx] at h
        obtain ⟨Q3, e3⟩ : ∃ Q, Q = rtxt xs 64 (.at n2) := ⟨_, rfl⟩
        rw [← e3] at h
        obtain ⟨v, s3⟩ := Q3
        obtain ⟨rfl, h2⟩ := Prod.mk.inj h
        simp only [] at h2
        subst h2
        obtain ⟨g3, _⟩ := rtxt_got hb e3.symm
        obtain rfl : x = 0 := by omega
        have := g1.trans (g2.trans g3)
        simpa [wb] using this
    · exfalso
      by_cases hx : x = 1
      · rw [if_pos hx] at h
        cases (Prod.mk.inj h).2
      · rw [if_neg hx] at h
        cases (Prod.mk.inj h).2
  · exfalso
    by_cases hx : x = 1
    · rw [if_pos hx] at h
      cases (Prod.mk.inj h).2
    · rw [if_neg hx] at h
      cases (Prod.mk.inj h).2
theorem rpr_got {p : Pr} {n m : Nat} (h : rpr xs (.at n) = (p, .at m)) : Got xs n m (pb p) := by
  unfold rpr at h
  obtain ⟨Q1, e1⟩ : ∃ Q, Q = rnum xs 2147483647 (.at n) := ⟨_, rfl⟩
  rw [← e1] at h
  obtain ⟨x, s1⟩ := Q1
  simp only [] at h
  rcases state_cases s1 with ⟨n1, rfl⟩ | ⟨q, rfl⟩
  · obtain ⟨Q2, e2⟩ : ∃ Q, Q = rnum xs 1099511627775 (.at n1) := ⟨_, rfl⟩
    rw [← e2] at h
    obtain ⟨y, s2⟩ := Q2
    simp only [] at h
    rcases state_cases s2 with ⟨n2, rfl⟩ | ⟨q, rfl⟩
    · obtain ⟨Q3, e3⟩ : ∃ Q, Q = rnum xs 1099511627775 (.at n2) := ⟨_, rfl⟩
      rw [← e3] at h
      obtain ⟨z, s3⟩ := Q3
      obtain ⟨rfl, h2⟩ := Prod.mk.inj h
      simp only [] at h2
      subst h2
      exact (rnum_got hb e1.symm).1.trans ((rnum_got hb e2.symm).1.trans (rnum_got hb e3.symm).1)
    · simp only [rnum_b] at h
      cases (Prod.mk.inj h).2
  · simp only [rnum_b] at h
    cases (Prod.mk.inj h).2
end

theorem rlist_bad' {α : Type} (f : Rs → α × Rs) (hf : ∀ p, (f (.bad p)).2 = .bad p) : ∀ (k p : Nat), (rlist f k (.bad p)).2 = .bad p
  | 0, p => rfl
  | k + 1, p => by
    rw [show (rlist f (k + 1) (.bad p)).2 = (rlist f k (f (.bad p)).2).2 from rfl, hf p]
    exact rlist_bad' f hf k p
theorem rlist_got {α : Type} {xs : List Int} (f : Rs → α × Rs) (g : α → List Int) (hf : ∀ x n m, f (.at n) = (x, .at m) → Got xs n m (g x)) (hbad : ∀ p, (f (.bad p)).2 = .bad p) :
    ∀ (k n m : Nat) (l : List α), n ≤ xs.length → rlist f k (.at n) = (l, .at m) → Got xs n m (l.flatMap g)
  | 0, n, m, l, hn, h => by
    obtain ⟨rfl, h2⟩ := Prod.mk.inj (show (([] : List α), Rs.at n) = (l, .at m) from h)
    simp only [Rs.at.injEq] at h2
    subst h2
    exact Got.refl hn
  | k + 1, n, m, l, hn, h => by
    have h' : ((f (.at n)).1 :: (rlist f k (f (.at n)).2).1, (rlist f k (f (.at n)).2).2) = (l, .at m) := h
    obtain ⟨rfl, h2⟩ := Prod.mk.inj h'
    obtain ⟨Q, eQ⟩ : ∃ Q, Q = f (.at n) := ⟨_, rfl⟩
    rw [← eQ] at h2 ⊢
    obtain ⟨x, s⟩ := Q
    simp only [] at h2 ⊢
    cases s with
    | bad p => rw [rlist_bad' f hbad] at h2; cases h2
    | «at» n1 =>
      have g1 := hf x n n1 eQ.symm
      have g2 := rlist_got f g hf hbad k n1 m (rlist f k (.at n1)).1 g1.2.1 (Prod.ext rfl h2)
      rw [List.flatMap_cons]
      exact g1.trans g2
theorem rwr_bad' (xs : List Int) (p : Nat) : (rwr xs (.bad p)).2 = .bad p := by
  unfold rwr
  rw [if_neg (show ¬ (rmark xs 0 1 (.bad p)).1 = 1 from by show ¬ (0 : Int) = 1; decide)]
  rfl
theorem rpr_bad' (xs : List Int) (p : Nat) : (rpr xs (.bad p)).2 = .bad p := rfl

/-- What the first byte says. -/
theorem sC_got {xs : List Int} {kind : Int} {n : Nat} (h : sC xs kind = .at n) : Got xs 0 n [kind] := by
  unfold sC at h
  obtain ⟨Q, eQ⟩ : ∃ Q, Q = rmark xs kind kind (.at 0) := ⟨_, rfl⟩
  rw [← eQ] at h
  obtain ⟨x, s⟩ := Q
  simp only [] at h
  subst h
  obtain ⟨g, h1, h2⟩ := rmark_got eQ.symm
  obtain rfl : x = kind := by omega
  exact g
theorem verd_zero {s : Rs} {len : Nat} {b : Bool} (h : (verd s len b).2 = 0) : ∃ n, s = .at n ∧ len ≤ n ∧ b = true := by
  unfold verd at h
  cases s with
  | bad p => exact absurd h (by show ¬ (61 : Int) = 0; decide)
  | «at» n =>
    simp only [] at h
    split at h
    · exact absurd h (by show ¬ (61 : Int) = 0; decide)
    · split at h
      · exact ⟨n, rfl, by omega, by assumption⟩
      · exact absurd h (by show ¬ (60 : Int) = 0; decide)
theorem Got.whole {xs : List Int} {n : Nat} {b : List Int} (h : Got xs 0 n b) (hn : xs.length ≤ n) : xs = b := by
  have := h.2.2
  rw [List.take_of_length_le hn] at this
  simpa using this

theorem rnum_bad' {xs : List Int} {most : Int} {p : Nat} : (rnum xs most (.bad p)).2 = .bad p := rfl

theorem one_C {xs : List Int} (hb : Byt xs) (h : (vC xs).2 = 0) : xs = cb (oC xs) ∧ rightC (oC xs) = true := by
  have ho : oC xs = (pC xs).1 := if_pos h
  obtain ⟨n, hs, hn, hr⟩ := verd_zero h
  rw [ho]
  refine ⟨?_, hr⟩
  obtain ⟨s0, e0⟩ : ∃ s, s = sC xs 67 := ⟨_, rfl⟩
  have hpC : pC xs = (⟨(rnum xs 1099511627775 s0).1, (rlist (rwr xs) (rnum xs 64 (rnum xs 1099511627775 s0).2).1.toNat (rnum xs 64 (rnum xs 1099511627775 s0).2).2).1⟩, (rlist (rwr xs) (rnum xs 64 (rnum xs 1099511627775 s0).2).1.toNat (rnum xs 64 (rnum xs 1099511627775 s0).2).2).2) := by rw [e0]; rfl
  rw [hpC] at hs ⊢
  simp only [] at hs ⊢
  obtain ⟨Q1, e1⟩ : ∃ Q, Q = rnum xs 1099511627775 s0 := ⟨_, rfl⟩
  obtain ⟨Q2, e2⟩ : ∃ Q, Q = rnum xs 64 Q1.2 := ⟨_, rfl⟩
  rw [← e1, ← e2] at hs ⊢
  obtain ⟨t, s1⟩ := Q1
  obtain ⟨k, s2⟩ := Q2
  simp only [] at hs e2 ⊢
  cases s2 with
  | bad p => rw [rlist_bad' _ (rwr_bad' xs)] at hs; cases hs
  | «at» n2 =>
    cases s1 with
    | bad p => exact (no_num e2).elim
    | «at» n1 =>
      cases s0 with
      | bad p => exact (no_num e1).elim
      | «at» n0 =>
        have g0 := sC_got e0.symm
        obtain ⟨g1, _⟩ := rnum_got hb e1.symm
        obtain ⟨g2, hk0, _⟩ := rnum_got hb e2.symm
        have g3 := rlist_got (rwr xs) wb (fun x n m h => rwr_got hb h) (rwr_bad' xs) k.toNat n2 n _ g2.2.1 (Prod.ext rfl hs)
        have hl := rlist_len (rwr xs) k.toNat (.at n2)
        have := (g0.trans (g1.trans (g2.trans g3))).whole hn
        unfold cb
        simp only [] at hl ⊢
        rw [hl, show ((k.toNat : Nat) : Int) = k by omega]
        exact this
theorem one_R {xs : List Int} (hb : Byt xs) (h : (vR xs).2 = 0) : xs = rb (oR xs) ∧ rightR (oR xs) = true := by
  have ho : oR xs = (pR xs).1 := if_pos h
  obtain ⟨n, hs, hn, hr⟩ := verd_zero h
  rw [ho]
  refine ⟨?_, hr⟩
  obtain ⟨s0, e0⟩ : ∃ s, s = sC xs 82 := ⟨_, rfl⟩
  obtain ⟨Q1, e1⟩ : ∃ Q, Q = rtxt xs 16 s0 := ⟨_, rfl⟩
  obtain ⟨Q2, e2⟩ : ∃ Q, Q = rtxt xs 64 Q1.2 := ⟨_, rfl⟩
  obtain ⟨Q3, e3⟩ : ∃ Q, Q = rnum xs 1099511627775 Q2.2 := ⟨_, rfl⟩
  have hp : pR xs = (⟨Q1.1, Q2.1, Q3.1⟩, Q3.2) := by rw [e3, e2, e1, e0]; rfl
  rw [hp] at hs ⊢
  obtain ⟨a, s1⟩ := Q1
  obtain ⟨b, s2⟩ := Q2
  obtain ⟨c, s3⟩ := Q3
  simp only [] at hs e2 e3 ⊢
  subst hs
  cases s2 with
  | bad p => exact (no_num e3).elim
  | «at» n2 =>
    cases s1 with
    | bad p => exact (no_txt e2).elim
    | «at» n1 =>
      cases s0 with
      | bad p => exact (no_txt e1).elim
      | «at» n0 =>
        have := ((sC_got e0.symm).trans ((rtxt_got hb e1.symm).1.trans ((rtxt_got hb e2.symm).1.trans (rnum_got hb e3.symm).1))).whole hn
        simpa [rb] using this
theorem one_G {xs : List Int} (hb : Byt xs) (h : (vG xs).2 = 0) : xs = gb (oG xs) ∧ rightG (oG xs) = true := by
  have ho : oG xs = (pG xs).1 := if_pos h
  obtain ⟨n, hs, hn, hr⟩ := verd_zero h
  rw [ho]
  refine ⟨?_, hr⟩
  obtain ⟨s0, e0⟩ : ∃ s, s = sC xs 71 := ⟨_, rfl⟩
  obtain ⟨Q1, e1⟩ : ∃ Q, Q = rtxt xs 16 s0 := ⟨_, rfl⟩
  obtain ⟨Q3, e3⟩ : ∃ Q, Q = rnum xs 1099511627775 Q1.2 := ⟨_, rfl⟩
  have hp : pG xs = (⟨Q1.1, Q3.1⟩, Q3.2) := by rw [e3, e1, e0]; rfl
  rw [hp] at hs ⊢
  obtain ⟨a, s1⟩ := Q1
  obtain ⟨c, s3⟩ := Q3
  simp only [] at hs e3 ⊢
  subst hs
  cases s1 with
  | bad p => exact (no_num e3).elim
  | «at» n1 =>
    cases s0 with
    | bad p => exact (no_txt e1).elim
    | «at» n0 =>
      have := ((sC_got e0.symm).trans ((rtxt_got hb e1.symm).1.trans (rnum_got hb e3.symm).1)).whole hn
      simpa [gb] using this
theorem one_M {xs : List Int} (hb : Byt xs) (h : (vM xs).2 = 0) : xs = mb (oM xs) ∧ rightM (oM xs) = true := by
  have ho : oM xs = (pM xs).1 := if_pos h
  obtain ⟨n, hs, hn, hr⟩ := verd_zero h
  rw [ho]
  refine ⟨?_, hr⟩
  obtain ⟨s0, e0⟩ : ∃ s, s = sC xs 77 := ⟨_, rfl⟩
  obtain ⟨Q1, e1⟩ : ∃ Q, Q = rnum xs 1099511627775 s0 := ⟨_, rfl⟩
  obtain ⟨Q2, e2⟩ : ∃ Q, Q = rnum xs 2147483647 Q1.2 := ⟨_, rfl⟩
  obtain ⟨Q3, e3⟩ : ∃ Q, Q = rnum xs 16 Q2.2 := ⟨_, rfl⟩
  have hp : pM xs = (⟨Q1.1, Q2.1, (rlist (rpr xs) Q3.1.toNat Q3.2).1⟩, (rlist (rpr xs) Q3.1.toNat Q3.2).2) := by rw [e3, e2, e1, e0]; rfl
  rw [hp] at hs ⊢
  obtain ⟨a, s1⟩ := Q1
  obtain ⟨b, s2⟩ := Q2
  obtain ⟨k, s3⟩ := Q3
  simp only [] at hs e2 e3 ⊢
  cases s3 with
  | bad p => rw [rlist_bad' _ (rpr_bad' xs)] at hs; cases hs
  | «at» n3 =>
    cases s2 with
    | bad p => exact (no_num e3).elim
    | «at» n2 =>
      cases s1 with
      | bad p => exact (no_num e2).elim
      | «at» n1 =>
        cases s0 with
        | bad p => exact (no_num e1).elim
        | «at» n0 =>
          obtain ⟨g3, hk0, _⟩ := rnum_got hb e3.symm
          have g4 := rlist_got (rpr xs) pb (fun x n m h => rpr_got hb h) (rpr_bad' xs) k.toNat n3 n _ g3.2.1 (Prod.ext rfl hs)
          have hl := rlist_len (rpr xs) k.toNat (.at n3)
          have := ((sC_got e0.symm).trans ((rnum_got hb e1.symm).1.trans ((rnum_got hb e2.symm).1.trans (g3.trans g4)))).whole hn
          unfold mb
          simp only [] at hl ⊢
          rw [hl, show ((k.toNat : Nat) : Int) = k by omega]
          exact this
end Go.Proofs.Yteihabdldiopeaa
