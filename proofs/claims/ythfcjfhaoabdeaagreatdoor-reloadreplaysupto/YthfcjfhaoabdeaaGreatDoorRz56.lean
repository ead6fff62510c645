/-
  A log on a disk whose power does not go: what is written, and what is read again. No program in sight.
-/
import Derived.Test.YthfcjfhaoabdeaaGreatDoorRz52
import Derived.Test.YthfcjfhaoabdeaaGreatDoorRz11
import Derived.Test.YthfcjfhaoabdeaaGreatDoorRz54
import Derived.Test.YthfcjfhaoabdeaaGreatDoorRz22
import Derived.BigQuiet
import Derived.Test.YthfcjfhaoabdeaaGreatDoorRz53
set_option linter.unusedVariables false
set_option linter.unusedSimpArgs false
namespace Go.Proofs.YthfcjfhaoabdeaaGreatDoor
open Go.RowKit Go.Maps

/-! ### Operations that go well -/
theorem on_go {S : Dsk} (h : offed S.P.n S.c S.o = false) (F : Int × PD) : S.go F = (F.1, ⟨F.2, S.c, false⟩) := by
  unfold Dsk.go ans lef
  rw [h]
  rfl
section
variable {S : Dsk} {f : Int} {Cs : List (List Int × Nat)}
theorem dsk_sync (hon : offed S.P.n S.c S.o = false) (h : Wl S.P f Cs) {i : Nat} {x : List Int × Nat} (hi : Cs[i]? = some x) (hn : S.P.n < 65536) :
    (S.sync (nm8 (f + i))).1 = 0 ∧ Wl (S.sync (nm8 (f + i))).2.P f (Cs.set i (x.1, x.1.length)) ∧ (S.sync (nm8 (f + i))).2.P.n = S.P.n + 1 ∧ (S.sync (nm8 (f + i))).2.P.log = S.P.log ∧ (S.sync (nm8 (f + i))).2.P.old = S.P.old ∧ (S.sync (nm8 (f + i))).2.c = S.c ∧ (S.sync (nm8 (f + i))).2.o = false := by
  obtain ⟨e, hw⟩ := h.sync hi hn
  have : S.sync (nm8 (f + i)) = ((S.P.sync (nm8 (f + i))).1, ⟨(S.P.sync (nm8 (f + i))).2, S.c, false⟩) := on_go hon _
  rw [this]
  refine ⟨by rw [e], hw, ?_, ?_, ?_, rfl, rfl⟩ <;> (simp only []; rw [e])
theorem dsk_made (hon : offed S.P.n S.c S.o = false) (h : Wl S.P f Cs) {xs : List Int} (hx : Byt xs) (hn : S.P.n < 65536) (hl : xs.length ≤ 262144) (h64 : Cs.length < 64) (hm : f + Cs.length + 1 ≤ 2147483647) :
    (S.app (nm8 (f + Cs.length)) xs).1 = 0 ∧ Wl (S.app (nm8 (f + Cs.length)) xs).2.P f (Cs ++ [(xs, 0)]) ∧ (S.app (nm8 (f + Cs.length)) xs).2.P.n = S.P.n + 1 ∧ (S.app (nm8 (f + Cs.length)) xs).2.P.log = S.P.log ++ [.mk (nm8 (f + Cs.length)) S.P.fil.length] ∧ (S.app (nm8 (f + Cs.length)) xs).2.P.old = S.P.old ∧ (S.app (nm8 (f + Cs.length)) xs).2.c = S.c ∧ (S.app (nm8 (f + Cs.length)) xs).2.o = false := by
  obtain ⟨e, hw⟩ := h.made hx hn hl h64 hm
  have : S.app (nm8 (f + Cs.length)) xs = ((S.P.app (nm8 (f + Cs.length)) xs).1, ⟨(S.P.app (nm8 (f + Cs.length)) xs).2, S.c, false⟩) := on_go hon _
  rw [this]
  refine ⟨by rw [e], hw, ?_, ?_, ?_, rfl, rfl⟩ <;> (simp only []; rw [e])
theorem dsk_syncDir (hon : offed S.P.n S.c S.o = false) (h : Wl S.P f Cs) (hn : S.P.n < 65536) :
    S.syncDir.1 = 0 ∧ Wl S.syncDir.2.P f Cs ∧ S.syncDir.2.P.n = S.P.n + 1 ∧ S.syncDir.2.P.log = [] ∧ S.syncDir.2.c = S.c ∧ S.syncDir.2.o = false := by
  obtain ⟨e, hw⟩ := h.syncDir hn
  have : S.syncDir = (S.P.syncDir.1, ⟨S.P.syncDir.2, S.c, false⟩) := on_go hon _
  rw [this]
  refine ⟨by rw [e], hw, ?_, ?_, rfl, rfl⟩ <;> (simp only []; rw [e])
end
/-- The power does not go. -/
def Dsk.up (S : Dsk) : Prop := S.c = -1 ∧ S.o = false
theorem Dsk.up.on {S : Dsk} (h : S.up) (n : Int) : offed n S.c S.o = false := by
  unfold offed
  rw [h.1, h.2]
  rfl
theorem set_last {α : Type} (l : List α) (x y : α) : (l ++ [x]).set l.length y = l ++ [y] := by
  rw [List.set_append_right _ _ (Nat.le_refl _), Nat.sub_self]
  rfl
/-- Another segment is begun. -/
theorem beg_up {S : Dsk} {f : Int} {Cs : List (List Int × Nat)} (hu : S.up) (h : Wl S.P f Cs) (q : Nat) (hn : S.P.n + 3 ≤ 65536) (h64 : Cs.length < 64) (hm : f + Cs.length + 1 ≤ 2147483647) :
    (beg S (f + Cs.length) q).1 = 0 ∧ Wl (beg S (f + Cs.length) q).2.P f (Cs ++ [(fra q (fstB (f + Cs.length)), (fra q (fstB (f + Cs.length))).length)]) ∧ (beg S (f + Cs.length) q).2.P.n = S.P.n + 3 ∧ (beg S (f + Cs.length) q).2.P.log = [] ∧ (beg S (f + Cs.length) q).2.up := by
  have hb : Byt (fra q (fstB (f + Cs.length))) := fra_byt q (fstB_byt _ (by have := h.f1; omega))
  have hl : (fra q (fstB (f + Cs.length))).length ≤ 262144 := by
    rw [fra_len]
    have := fstB_len (f + Cs.length)
    have := nb_lt (fstB (f + Cs.length)).length
    omega
  obtain ⟨a1, a2, a3, a4, a5, a6, a7⟩ := dsk_made (hu.on _) h hb (by omega) hl h64 hm
  have u1 : (S.app (nm8 (f + Cs.length)) (fra q (fstB (f + Cs.length)))).2.up := ⟨a6.trans hu.1, a7⟩
  have hi : (Cs ++ [(fra q (fstB (f + Cs.length)), 0)])[Cs.length]? = some (fra q (fstB (f + Cs.length)), 0) := by simp
  obtain ⟨b1, b2, b3, b4, b5, b6, b7⟩ := dsk_sync (u1.on _) a2 hi (by omega)
  have u2 : ((S.app (nm8 (f + Cs.length)) (fra q (fstB (f + Cs.length)))).2.sync (nm8 (f + Cs.length))).2.up := ⟨b6.trans u1.1, b7⟩
  rw [set_last] at b2
  obtain ⟨c1, c2, c3, c4, c5, c6⟩ := dsk_syncDir (u2.on _) b2 (by omega)
  unfold beg
  rw [if_neg (by rw [a1]; simp), if_neg (by rw [b1]; simp)]
  exact ⟨c1, c2, by omega, c4, c5.trans u2.1, c6⟩

/-! ### Reading what was written -/
/-- Contents one behind the other are read. -/
def Chain : Int → Rdr → List (List Int × Nat) → Rdr → Prop
  | _, R, [], R' => R = R'
  | n, R, x :: xs, R' => ∃ R1, SegR x.1 n R (some R1) ∧ Chain (n + 1) R1 xs R'
theorem chain_rds {P : PD} {f : Int} {Cs : List (List Int × Nat)} (h : Wl P f Cs) : ∀ (k : Nat) (R R' : Rdr), k ≤ Cs.length → Chain (f + k) R (Cs.drop k) R' → Rds P (f + k) R (some (f + Cs.length, R')) := by
  intro k
  generalize hm : Cs.length - k = m
  induction m generalizing k with
  | zero =>
    intro R R' hk hc
    have e : k = Cs.length := by omega
    subst e
    rw [List.drop_length] at hc
    obtain rfl : R = R' := hc
    exact .stop (fun hn => by have := h.segs.1 hn; omega)
  | succ m ih =>
    intro R R' hk hc
    have hkl : k < Cs.length := by omega
    rw [List.drop_eq_getElem_cons hkl] at hc
    obtain ⟨R1, h1, h2⟩ := hc
    have hr := h.read (i := k) (List.getElem?_eq_getElem hkl)
    refine .go (h.segs.2 ⟨by omega, by omega⟩) (r' := R1) (by rw [hr]; exact h1) ?_
    have := ih (k + 1) (by omega) R1 R' (by omega) (by
      rw [show f + ((k + 1 : Nat) : Int) = f + (k : Int) + 1 from by omega]
      exact h2)
    rwa [show f + ((k + 1 : Nat) : Int) = f + (k : Int) + 1 from by omega] at this
/-- SegR tells one thing. -/
theorem segR_det {xs : List Int} {n : Int} {R : Rdr} {x y : Option Rdr} (h : SegR xs n R x) (k : SegR xs n R y) : x = y := by
  rcases h with ⟨q, h1, h2, rfl⟩ | ⟨h0, bs, a, f, hg, hst, hx⟩
  · rcases k with ⟨q', k1, k2, rfl⟩ | ⟨k0, _⟩
    · rfl
    · exact absurd (k0 q h1) h2
  · rcases k with ⟨q', k1, k2, rfl⟩ | ⟨k0, bs', a', f', kg, kst, ky⟩
    · exact absurd (h0 q' k1) k2
    · obtain ⟨rfl, rfl, rfl⟩ := goes_det _ _ _ _ _ _ _ _ _ hg kg hst kst
      rcases hx with ⟨l1, rfl⟩ | ⟨l1, rfl⟩
      · rcases ky with ⟨_, rfl⟩ | ⟨l2, _⟩
        · rfl
        · exact absurd l1 l2
      · rcases ky with ⟨l2, _⟩ | ⟨_, rfl⟩
        · exact absurd l2 l1
        · rfl
theorem rds_det {P : PD} {n : Int} {R : Rdr} {x y : Option (Int × Rdr)} (h : Rds P n R x) : Rds P n R y → x = y := by
  induction h generalizing y with
  | stop h1 =>
    intro k
    cases k with
    | stop _ => rfl
    | bad h2 _ => exact absurd h2 h1
    | go h2 _ _ => exact absurd h2 h1
  | bad h1 h2 =>
    intro k
    cases k with
    | stop k1 => exact absurd h1 k1
    | bad _ _ => rfl
    | go _ k2 _ => cases segR_det h2 k2
  | go h1 h2 _ ih =>
    intro k
    cases k with
    | stop k1 => exact absurd h1 k1
    | bad _ k2 => cases segR_det h2 k2
    | go _ k2 k3 =>
      have := segR_det h2 k2
      simp only [Option.some.injEq] at this
      subst this
      exact ih k3
/-- What Open answers of a disk that is read. -/
theorem open_chain {S S' : Dsk} {f : Int} {Cs : List (List Int × Nat)} {R : Rdr} {er : Int} {x : Option (Lg × List Cm)} (hu : S.up) (h : Wl S.P f Cs) (hf : f ≤ 1073741824) (hc : Chain f ⟨false, 0, []⟩ Cs R) (hn : S.P.n + 3 ≤ 65536) (h64 : Cs.length < 64) (ho : OpenR S f er x S') :
    er = 0 ∧ x = some (Lg.new (f + Cs.length) R.next, R.cs) ∧ S' = (beg S (f + Cs.length) R.next).2 := by
  have hr : Rds S.P f ⟨false, 0, []⟩ (some (f + Cs.length, R)) := by
    have := chain_rds h 0 ⟨false, 0, []⟩ R (Nat.zero_le _) (by simpa using hc)
    simpa using this
  have hf1 := h.f1
  have hb := beg_up hu h R.next hn h64 (by omega)
  have hg := h.nogap f (Int.le_refl _)
  cases ho with
  | arg h1 => omega
  | off _ _ h1 => rw [hu.2] at h1; cases h1
  | gap _ _ _ h1 => rw [hg] at h1; cases h1
  | bad _ _ _ _ h1 => cases rds_det hr h1
  | err _ _ _ _ h1 h2 =>
    have := rds_det hr h1
    simp only [Option.some.injEq, Prod.mk.injEq] at this
    obtain ⟨rfl, rfl⟩ := this
    exact absurd hb.1 h2
  | ok _ _ _ _ h1 h2 =>
    have := rds_det hr h1
    simp only [Option.some.injEq, Prod.mk.injEq] at this
    obtain ⟨rfl, rfl⟩ := this
    exact ⟨rfl, rfl, rfl⟩
end Go.Proofs.YthfcjfhaoabdeaaGreatDoor

/-
  What the document's examples leave, step by step. No program in sight.
-/
set_option linter.unusedVariables false
set_option linter.unusedSimpArgs false
namespace Go.Proofs.YthfcjfhaoabdeaaGreatDoor
open Go.RowKit Go.Maps

def sA : Dsk := ⟨PD.new, -1, false⟩
def sB : Dsk := (beg sA 1 0).2
def lB : Lg := Lg.new 1 0
theorem upA : sA.up := ⟨rfl, rfl⟩
theorem wlA : Wl sA.P 1 [] := wl_new 1 (by decide) (by decide)
theorem openA {er : Int} {x : Option (Lg × List Cm)} {S' : Dsk} (h : OpenR sA 1 er x S') : er = 0 ∧ x = some (lB, []) ∧ S' = sB := open_chain (R := ⟨false, 0, []⟩) upA wlA (by decide) rfl (by decide) (by decide) h
theorem fl1 : (fstB 1).length = 2 := by decide +kernel
end Go.Proofs.YthfcjfhaoabdeaaGreatDoor
