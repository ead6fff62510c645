/-
  What is right is read from its bytes as it is, whatever is behind them: plain mathematics.
-/
import Derived.Test.YteihabdldiopeaaE1
set_option linter.unusedVariables false
set_option linter.unusedSimpArgs false
namespace Go.Proofs.Yteihabdldiopeaa
open Go.RowKit

theorem tk_put (p s : List Int) (v : Int) (h0 : 0 ≤ v) (h2 : v ≤ 18446744073709551615) : tk (p ++ (enc v ++ s)) p.length = some (v, (p.length : Int) + ((enc v).length : Int)) := by
  have hp := enc_pos v
  unfold tk
  rw [if_neg (by simp only [List.length_append]; omega), Int.toNat_natCast, List.drop_left, enc_dec v s h0 h2]
  rfl
theorem rnum_put {xs : List Int} (p s : List Int) (v most : Int) (hx : xs = p ++ (enc v ++ s)) (h0 : 0 ≤ v) (h1 : v ≤ most) (h2 : v ≤ 18446744073709551615) {n : Nat} (hn : n = p.length) : rnum xs most (.at n) = (v, .at (p ++ enc v).length) := by
  subst hn
  subst hx
  simp only [rnum, tk_put p s v h0 h2, if_pos h1]
  congr 2
  rw [List.length_append]
  omega
theorem rtxt_put {xs : List Int} (p s : List Int) (t : ByteArray) (most : Int) (hx : xs = p ++ (tx t ++ s)) (h1 : (t.size : Int) ≤ most) (h2 : (t.size : Int) ≤ 1000) {n : Nat} (hn : n = p.length) : rtxt xs most (.at n) = (t, .at (p ++ tx t).length) := by
  subst hn
  have hx2 : xs = p ++ (enc t.size ++ (sb t ++ s)) := by rw [hx]; unfold tx; rw [List.append_assoc]
  have ht := tk_put p (sb t ++ s) (t.size : Int) (by omega) (by omega)
  rw [← hx2] at ht
  have hlen : xs.length = p.length + (enc t.size).length + t.size + s.length := by
    rw [hx2]
    simp only [List.length_append, sb_length]
    omega
  obtain ⟨e, he⟩ : ∃ e, e = (enc t.size).length := ⟨_, rfl⟩
  rw [← he] at ht hlen
  have hcut : (xs.take (p.length + e + t.size)).drop (p.length + e) = sb t := by
    have e1 : xs = (p ++ enc t.size) ++ (sb t ++ s) := by rw [hx2]; simp
    have e2 : p.length + e = (p ++ enc t.size).length := by rw [List.length_append, he]
    have e3 : t.size = (sb t).length := (sb_length t).symm
    rw [e1, e2, e3, List.take_append, List.take_of_length_le (by omega), List.drop_left, Nat.add_sub_cancel_left, List.take_left]
  simp only [rtxt, tt, ht]
  rw [if_neg (by omega)]
  have e4 : ((p.length : Int) + (e : Int) + (t.size : Int)).toNat = p.length + e + t.size := by omega
  have e5 : ((p.length : Int) + (e : Int)).toNat = p.length + e := by omega
  simp only [e4, e5, hcut, str_sb]
  congr 2
  unfold tx
  simp only [List.length_append, sb_length]
  omega
theorem rmark_put {xs : List Int} (p s : List Int) (x lo hi : Int) (hx : xs = p ++ (x :: s)) (h1 : lo ≤ x) (h2 : x ≤ hi) {n : Nat} (hn : n = p.length) : rmark xs lo hi (.at n) = (x, .at (p ++ [x]).length) := by
  subst hn
  subst hx
  have e : (p ++ x :: s).getD p.length 0 = x := by simp [List.getD]
  simp only [rmark, e]
  rw [if_pos ⟨by simp, h1, h2⟩]
  simp
theorem rwr_put {xs : List Int} (p s : List Int) (w : Wr) (hx : xs = p ++ (wb w ++ s)) (h : okW w = true) {n : Nat} (hn : n = p.length) : rwr xs (.at n) = (w, .at (p ++ wb w).length) := by
  obtain ⟨k, v, g⟩ := w
  simp only [okW, isK, isV, Bool.and_eq_true, Bool.or_eq_true, decide_eq_true_eq] at h
  obtain ⟨⟨⟨hk1, hk2⟩, hv⟩, hg⟩ := h
  cases g with
  | true =>
    obtain rfl : v = ⟨#[]⟩ := size_zero (by simpa using hg)
    have e1 : xs = p ++ (1 :: (tx k ++ s)) := by rw [hx]; simp [wb]
    have m1 := rmark_put p (tx k ++ s) 1 0 1 e1 (by omega) (by omega) hn
    have m2 := rtxt_put (xs := xs) (p ++ [1]) s k 16 (by rw [e1]; simp) (by omega) (by omega) rfl
    unfold rwr
    rw [m1]
    simp only []
    rw [if_pos trivial, m2]
    congr 2
    simp [wb]
  | false =>
    have e1 : xs = p ++ (0 :: (tx k ++ (tx v ++ s))) := by rw [hx]; simp [wb]
    have m1 := rmark_put p (tx k ++ (tx v ++ s)) 0 0 1 e1 (by omega) (by omega) hn
    have m2 := rtxt_put (xs := xs) (p ++ [0]) (tx v ++ s) k 16 (by rw [e1]; simp) (by omega) (by omega) rfl
    have m3 := rtxt_put (xs := xs) ((p ++ [0]) ++ tx k) s v 64 (by rw [e1]; simp) (by omega) (by omega) rfl
    unfold rwr
    rw [m1]
    simp only []
    rw [if_neg (by decide), m2]
    simp only []
    rw [m3]
    congr 2
    simp [wb]
theorem rpr_put {xs : List Int} (p s : List Int) (q : Pr) (hx : xs = p ++ (pb q ++ s)) (h : okP q) {n : Nat} (hn : n = p.length) : rpr xs (.at n) = (q, .at (p ++ pb q).length) := by
  obtain ⟨a, b, c⟩ := q
  obtain ⟨⟨h0, h1⟩, ⟨h2, h3⟩, ⟨h4, h5⟩⟩ := h
  simp only [] at h0 h1 h2 h3 h4 h5
  have e1 : xs = p ++ (enc a ++ (enc b ++ (enc c ++ s))) := by rw [hx]; simp [pb]
  have m1 := rnum_put p (enc b ++ (enc c ++ s)) a 2147483647 e1 h0 h1 (by omega) hn
  have m2 := rnum_put (xs := xs) (p ++ enc a) (enc c ++ s) b 1099511627775 (by rw [e1]; simp) h2 h3 (by omega) rfl
  have m3 := rnum_put (xs := xs) ((p ++ enc a) ++ enc b) s c 1099511627775 (by rw [e1]; simp) h4 h5 (by omega) rfl
  unfold rpr
  rw [m1]
  simp only []
  rw [m2]
  simp only []
  rw [m3]
  congr 2
  simp [pb]
theorem rlist_put {α : Type} {xs : List Int} (f : Rs → α × Rs) (g : α → List Int) (ok : α → Prop) (hf : ∀ (p s : List Int) (x : α) (n : Nat), xs = p ++ (g x ++ s) → ok x → n = p.length → f (.at n) = (x, .at (p ++ g x).length)) :
    ∀ (l : List α) (p s : List Int) (n : Nat), xs = p ++ (l.flatMap g ++ s) → (∀ x ∈ l, ok x) → n = p.length → rlist f l.length (.at n) = (l, .at (p ++ l.flatMap g).length)
  | [], p, s, n, hx, hok, hn => by
    subst hn
    simp [rlist]
  | x :: l, p, s, n, hx, hok, hn => by
    have hx' : xs = p ++ (g x ++ (l.flatMap g ++ s)) := by rw [hx, List.flatMap_cons, List.append_assoc]
    have m1 := hf p (l.flatMap g ++ s) x n hx' (hok x (List.mem_cons_self ..)) hn
    have m2 := rlist_put f g ok hf l (p ++ g x) s (p ++ g x).length (by rw [hx']; simp) (fun y hy => hok y (List.mem_cons_of_mem _ hy)) rfl
    rw [List.length_cons, show rlist f (l.length + 1) (.at n) = ((f (.at n)).1 :: (rlist f l.length (f (.at n)).2).1, (rlist f l.length (f (.at n)).2).2) from rfl, m1]
    simp only []
    rw [m2, List.flatMap_cons]
    congr 2
    rw [List.append_assoc]
theorem sC_put (kind : Int) (s : List Int) : sC (kind :: s) kind = .at 1 := by
  unfold sC
  rw [rmark_put (xs := kind :: s) [] s kind kind kind rfl (Int.le_refl _) (Int.le_refl _) (n := 0) rfl]
  rfl
theorem sC_other (kind k : Int) (s : List Int) (h : k ≠ kind) : sC (k :: s) kind = .bad 0 := by
  unfold sC
  simp only [rmark]
  rw [if_neg (by simp; omega)]

theorem back_C {c : Cm} (h : rightC c = true) (s : List Int) : pC (cb c ++ s) = (c, .at (cb c).length) := by
  obtain ⟨t, ws⟩ := c
  simp only [rightC, isT, Bool.and_eq_true, decide_eq_true_eq] at h
  obtain ⟨⟨⟨ht0, ht1⟩, hlen⟩, hup⟩ := h
  obtain ⟨xs, ex⟩ : ∃ xs, xs = cb ⟨t, ws⟩ ++ s := ⟨_, rfl⟩
  have e1 : xs = [67] ++ (enc t ++ (enc ws.length ++ (ws.flatMap wb ++ s))) := by rw [ex]; simp [cb]
  rw [← ex]
  have m0 : sC xs 67 = .at 1 := by rw [e1]; exact sC_put _ _
  have m1 := rnum_put [67] (enc ws.length ++ (ws.flatMap wb ++ s)) t 1099511627775 e1 ht0 ht1 (by omega) (n := 1) rfl
  have m2 := rnum_put (xs := xs) ([67] ++ enc t) (ws.flatMap wb ++ s) (ws.length : Int) 64 (by rw [e1]; simp) (by omega) (by omega) (by omega) rfl
  have m3 := rlist_put (xs := xs) (rwr xs) wb (fun w => okW w = true) (fun p s x n hx hok hn => rwr_put p s x hx hok hn) ws (([67] ++ enc t) ++ enc ws.length) s _ (by rw [e1]; simp) (upW_mem ws _ hup) rfl
  unfold pC
  rw [m0, m1]
  simp only []
  rw [m2]
  simp only [Int.toNat_natCast]
  rw [m3]
  exact Prod.ext rfl (by simp [cb])
theorem back_R {r : Rw} (h : rightR r = true) (s : List Int) : pR (rb r ++ s) = (r, .at (rb r).length) := by
  obtain ⟨k, v, t⟩ := r
  simp only [rightR, isK, isV, isT, Bool.and_eq_true, decide_eq_true_eq] at h
  obtain ⟨⟨⟨hk1, hk2⟩, hv⟩, ht0, ht1⟩ := h
  obtain ⟨xs, ex⟩ : ∃ xs, xs = rb ⟨k, v, t⟩ ++ s := ⟨_, rfl⟩
  have e1 : xs = [82] ++ (tx k ++ (tx v ++ (enc t ++ s))) := by rw [ex]; simp [rb]
  rw [← ex]
  have m0 : sC xs 82 = .at 1 := by rw [e1]; exact sC_put _ _
  have m1 := rtxt_put [82] (tx v ++ (enc t ++ s)) k 16 e1 (by omega) (by omega) (n := 1) rfl
  have m2 := rtxt_put (xs := xs) ([82] ++ tx k) (enc t ++ s) v 64 (by rw [e1]; simp) (by omega) (by omega) rfl
  have m3 := rnum_put (xs := xs) (([82] ++ tx k) ++ tx v) s t 1099511627775 (by rw [e1]; simp) ht0 ht1 (by omega) rfl
  unfold pR
  rw [m0, m1]
  simp only []
  rw [m2]
  simp only []
  rw [m3]
  exact Prod.ext rfl (by simp [rb])
theorem back_M {m : Mf} (h : rightM m = true) (s : List Int) : pM (mb m ++ s) = (m, .at (mb m).length) := by
  obtain ⟨t, lg, ps⟩ := m
  simp only [rightM, isT, isN, Bool.and_eq_true, decide_eq_true_eq] at h
  obtain ⟨⟨⟨⟨ht0, ht1⟩, hn0, hn1⟩, hlen⟩, hup⟩ := h
  have hok := upP_mem ps [] t 0 hup (by omega) ht1
  obtain ⟨xs, ex⟩ : ∃ xs, xs = mb ⟨t, lg, ps⟩ ++ s := ⟨_, rfl⟩
  have e1 : xs = [77] ++ (enc t ++ (enc lg ++ (enc ps.length ++ (ps.flatMap pb ++ s)))) := by rw [ex]; simp [mb]
  rw [← ex]
  have m0 : sC xs 77 = .at 1 := by rw [e1]; exact sC_put _ _
  have m1 := rnum_put [77] (enc lg ++ (enc ps.length ++ (ps.flatMap pb ++ s))) t 1099511627775 e1 ht0 ht1 (by omega) (n := 1) rfl
  have m2 := rnum_put (xs := xs) ([77] ++ enc t) (enc ps.length ++ (ps.flatMap pb ++ s)) lg 2147483647 (by rw [e1]; simp) (by omega) (by omega) (by omega) rfl
  have m3 := rnum_put (xs := xs) (([77] ++ enc t) ++ enc lg) (ps.flatMap pb ++ s) (ps.length : Int) 16 (by rw [e1]; simp) (by omega) (by omega) (by omega) rfl
  have m4 := rlist_put (xs := xs) (rpr xs) pb okP (fun p s x n hx hok hn => rpr_put p s x hx hok hn) ps ((([77] ++ enc t) ++ enc lg) ++ enc ps.length) s _ (by rw [e1]; simp) hok rfl
  unfold pM sM
  rw [m0, m1]
  simp only []
  rw [m2]
  simp only []
  rw [m3]
  simp only [Int.toNat_natCast]
  rw [m4]
  exact Prod.ext rfl (by simp [mb])

theorem rd_C {c : Cm} (h : rightC c = true) : vC (cb c) = (0, 0) ∧ oC (cb c) = c := by
  have hp := back_C h []
  rw [List.append_nil] at hp
  have hv : vC (cb c) = (0, 0) := by
    unfold vC
    rw [hp]
    simp [verd, h]
  exact ⟨hv, by unfold oC; rw [hv, if_pos rfl, hp]⟩
theorem rd_R {r : Rw} (h : rightR r = true) : vR (rb r) = (0, 0) ∧ oR (rb r) = r := by
  have hp := back_R h []
  rw [List.append_nil] at hp
  have hv : vR (rb r) = (0, 0) := by
    unfold vR
    rw [hp]
    simp [verd, h]
  exact ⟨hv, by unfold oR; rw [hv, if_pos rfl, hp]⟩
theorem rd_M {m : Mf} (h : rightM m = true) : vM (mb m) = (0, 0) ∧ oM (mb m) = m := by
  have hp := back_M h []
  rw [List.append_nil] at hp
  have hv : vM (mb m) = (0, 0) := by
    unfold vM
    rw [hp]
    simp [verd, h]
  exact ⟨hv, by unfold oM; rw [hv, if_pos rfl, hp]⟩
theorem more_C {c : Cm} (h : rightC c = true) : (vC (cb c ++ [0])).2 = 61 := by
  unfold vC
  rw [back_C h [0]]
  simp [verd]
theorem less_C {c : Cm} (h : rightC c = true) (hb : Byt (cb c)) (k : Nat) (hk : k < (cb c).length) : ¬ (vC ((cb c).take k)).2 = 0 := by
  intro h0
  obtain ⟨e1, h1⟩ := one_C (hb.take k) h0
  have hp := back_C h1 ((cb c).drop k)
  rw [← e1, List.take_append_drop] at hp
  have hq := back_C h []
  rw [List.append_nil, hp] at hq
  have := (Prod.mk.inj hq).2
  simp only [Rs.at.injEq] at this
  rw [List.length_take] at this
  omega
theorem row_C (c : Cm) : (vR (cb c)).2 = 61 := by
  have e : sC (cb c) 82 = .bad 0 := sC_other 82 67 _ (by decide)
  have h : (pR (cb c)).2 = .bad 0 := by
    unfold pR
    rw [e]
    rfl
  unfold vR
  rw [h]
  rfl
end Go.Proofs.Yteihabdldiopeaa
