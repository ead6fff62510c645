/-
  A log on a disk whose power does not go: what is written, and what is read again. No program in sight.
-/
import Derived.Test.YtgifcgniphncdaaGreatDoorPk29
import Derived.Test.YtgifcgniphncdaaGreatDoorPk19
import Derived.Test.YtgifcgniphncdaaGreatDoorPk36
import Derived.Test.YtgifcgniphncdaaGreatDoorPk30
import Derived.Test.YtgifcgniphncdaaGreatDoorPk18
set_option linter.unusedVariables false
set_option linter.unusedSimpArgs false
namespace Go.Proofs.YtgifcgniphncdaaGreatDoor
open Go.RowKit Go.Maps

/-! ### Operations that go well -/
theorem on_go {S : Dsk} (h : offed S.P.n S.c S.o = false) (F : Int × PD) : S.go F = (F.1, ⟨F.2, S.c, false⟩) := by
  unfold Dsk.go ans lef
  rw [h]
  rfl
section
variable {S : Dsk} {f : Int} {Cs : List (List Int × Nat)}
theorem dsk_app (hon : offed S.P.n S.c S.o = false) (h : Wl S.P f Cs) {i : Nat} {x : List Int × Nat} (hi : Cs[i]? = some x) {xs : List Int} (hx : Byt xs) (hn : S.P.n < 65536) (hl : xs.length + x.1.length ≤ 262144) :
    (S.app (nm8 (f + i)) xs).1 = 0 ∧ Wl (S.app (nm8 (f + i)) xs).2.P f (Cs.set i (x.1 ++ xs, x.2)) ∧ (S.app (nm8 (f + i)) xs).2.P.n = S.P.n + 1 ∧ (S.app (nm8 (f + i)) xs).2.P.log = S.P.log ∧ (S.app (nm8 (f + i)) xs).2.P.old = S.P.old ∧ (S.app (nm8 (f + i)) xs).2.c = S.c ∧ (S.app (nm8 (f + i)) xs).2.o = false := by
  obtain ⟨e, hw⟩ := h.app hi hx hn hl
  have : S.app (nm8 (f + i)) xs = ((S.P.app (nm8 (f + i)) xs).1, ⟨(S.P.app (nm8 (f + i)) xs).2, S.c, false⟩) := on_go hon _
  rw [this]
  refine ⟨by rw [e], hw, ?_, ?_, ?_, rfl, rfl⟩ <;> (simp only []; rw [e])
theorem dsk_sync (hon : offed S.P.n S.c S.o = false) (h : Wl S.P f Cs) {i : Nat} {x : List Int × Nat} (hi : Cs[i]? = some x) (hn : S.P.n < 65536) :
    (S.sync (nm8 (f + i))).1 = 0 ∧ Wl (S.sync (nm8 (f + i))).2.P f (Cs.set i (x.1, x.1.length)) ∧ (S.sync (nm8 (f + i))).2.P.n = S.P.n + 1 ∧ (S.sync (nm8 (f + i))).2.P.log = S.P.log ∧ (S.sync (nm8 (f + i))).2.P.old = S.P.old ∧ (S.sync (nm8 (f + i))).2.c = S.c ∧ (S.sync (nm8 (f + i))).2.o = false := by
  obtain ⟨e, hw⟩ := h.sync hi hn
  have : S.sync (nm8 (f + i)) = ((S.P.sync (nm8 (f + i))).1, ⟨(S.P.sync (nm8 (f + i))).2, S.c, false⟩) := on_go hon _
  rw [this]
  refine ⟨by rw [e], hw, ?_, ?_, ?_, rfl, rfl⟩ <;> (simp only []; rw [e])
theorem dsk_made (hon : offed S.P.n S.c S.o = false) (h : Wl S.P f Cs) {xs : List Int} (hx : Byt xs) (hn : S.P.n < 65536) (hl : xs.length ≤ 262144) (h64 : Cs.length < 64) (hm : f + Cs.length + 1 ≤ 2147483647) :
    (S.app (nm8 (f + Cs.length)) xs).1 = 0 ∧ Wl (S.app (nm8 (f + Cs.length)) xs).2.P f (Cs ++ [(xs, 0)]) ∧ (S.app (nm8 (f + Cs.length)) xs).2.P.n = S.P.n + 1 ∧ (S.app (nm8 (f + Cs.length)) xs).2.P.log = S.P.log ++ [.mk (nm8 (f + Cs.length)) S.P.fil.length] ∧ (S.app (nm8 (f + Cs.length)) xs).2.P.old = S.P.old ∧ (S.app (nm8 (f + Cs.length)) xs).2.c = S.c ∧ (S.app (nm8 (f + Cs.length)) xs).2.o = false := by
  obtain ⟨e, hw⟩ := h.made hx hn hl h64 hm
  have : S.app (nm8 (f + Cs.length)) xs = ((S.P.app (nm8 (f + Cs.length)) xs).1, ⟨(S.P.app (nm8 (f + Cs.length)) xs).2, S.c, false⟩) := on_go hon _
  rw [this]
  refine ⟨by rw [e], hw, ?_, ?_, ?_, rfl, rfl⟩ <;> (simp only []; rw [e])
theorem dsk_syncDir (hon : offed S.P.n S.c S.o = false) (h : Wl S.P f Cs) (hn : S.P.n < 65536) :
    S.syncDir.1 = 0 ∧ Wl S.syncDir.2.P f Cs ∧ S.syncDir.2.P.n = S.P.n + 1 ∧ S.syncDir.2.P.log = [] ∧ S.syncDir.2.c = S.c ∧ S.syncDir.2.o = false := by
  obtain ⟨e, hw⟩ := h.syncDir hn
  have : S.syncDir = (S.P.syncDir.1, ⟨S.P.syncDir.2, S.c, false⟩) := on_go hon _
  rw [this]
  refine ⟨by rw [e], hw, ?_, ?_, rfl, rfl⟩ <;> (simp only []; rw [e])
end
/-- The power does not go. -/
def Dsk.up (S : Dsk) : Prop := S.c = -1 ∧ S.o = false
theorem Dsk.up.on {S : Dsk} (h : S.up) (n : Int) : offed n S.c S.o = false := by
  unfold offed
  rw [h.1, h.2]
  rfl
theorem set_last {α : Type} (l : List α) (x y : α) : (l ++ [x]).set l.length y = l ++ [y] := by
  rw [List.set_append_right _ _ (Nat.le_refl _), Nat.sub_self]
  rfl
/-- Another segment is begun. -/
theorem beg_up {S : Dsk} {f : Int} {Cs : List (List Int × Nat)} (hu : S.up) (h : Wl S.P f Cs) (q : Nat) (hn : S.P.n + 3 ≤ 65536) (h64 : Cs.length < 64) (hm : f + Cs.length + 1 ≤ 2147483647) :
    (beg S (f + Cs.length) q).1 = 0 ∧ Wl (beg S (f + Cs.length) q).2.P f (Cs ++ [(fra q (fstB (f + Cs.length)), (fra q (fstB (f + Cs.length))).length)]) ∧ (beg S (f + Cs.length) q).2.P.n = S.P.n + 3 ∧ (beg S (f + Cs.length) q).2.P.log = [] ∧ (beg S (f + Cs.length) q).2.up := by
  have hb : Byt (fra q (fstB (f + Cs.length))) := fra_byt q (fstB_byt _ (by have := h.f1; omega))
  have hl : (fra q (fstB (f + Cs.length))).length ≤ 262144 := by
    rw [fra_len]
    have := fstB_len (f + Cs.length)
    have := nb_lt (fstB (f + Cs.length)).length
    omega
  obtain ⟨a1, a2, a3, a4, a5, a6, a7⟩ := dsk_made (hu.on _) h hb (by omega) hl h64 hm
  have u1 : (S.app (nm8 (f + Cs.length)) (fra q (fstB (f + Cs.length)))).2.up := ⟨a6.trans hu.1, a7⟩
  have hi : (Cs ++ [(fra q (fstB (f + Cs.length)), 0)])[Cs.length]? = some (fra q (fstB (f + Cs.length)), 0) := by simp
  obtain ⟨b1, b2, b3, b4, b5, b6, b7⟩ := dsk_sync (u1.on _) a2 hi (by omega)
  have u2 : ((S.app (nm8 (f + Cs.length)) (fra q (fstB (f + Cs.length)))).2.sync (nm8 (f + Cs.length))).2.up := ⟨b6.trans u1.1, b7⟩
  rw [set_last] at b2
  obtain ⟨c1, c2, c3, c4, c5, c6⟩ := dsk_syncDir (u2.on _) b2 (by omega)
  unfold beg
  rw [if_neg (by rw [a1]; simp), if_neg (by rw [b1]; simp)]
  exact ⟨c1, c2, by omega, c4, c5.trans u2.1, c6⟩

/-! ### Reading what was written -/
/-- A segment as it was written is read. -/
theorem segR_clean {n : Int} {R : Rdr} {s : Nat} {B : List (List Int)} {ks : List Cm} (hn : 0 ≤ n) (hs : s < 18446744073709551616) (hR : R.begun = true → R.next = s) (ho : Okb B) (hc : coms B = some ks) :
    SegR (fras s (fstB n :: B)) n R (some ⟨true, (s + (B.length + 1)) % 18446744073709551616, R.cs ++ ks⟩) := by
  have ho' : Okb (fstB n :: B) := fun b hb => by
    rcases List.mem_cons.1 hb with rfl | hb
    · exact ⟨by have := fstB_len n; omega, fstB_byt n hn⟩
    · exact ho b hb
  have hb := fras_byt s _ ho'
  have ht : takA (fras s (fstB n :: B)) ((0 : Nat) : Int) = some (s, fstB n) := takA_at (rest := fras ((s + 1) % 18446744073709551616) B) hb rfl (by simp [fras]) hs ho'.head.2 ho'.head.1
  have ht0 : takA (fras s (fstB n :: B)) 0 = some (s, fstB n) := ht
  have hnx : R.nx (fras s (fstB n :: B)) = s := by
    unfold Rdr.nx
    split
    · rename_i h; exact hR h
    · rw [ht0]
  have hbg : R.bg (fras s (fstB n :: B)) = true := by unfold Rdr.bg; rw [ht0]; simp
  have hg := goes_fras hb (fstB n :: B) 0 s [] rfl (Nat.zero_le _) (by simp) ho' hs
  rw [Nat.zero_add] at hg
  have hlen := fras_len s (fstB n :: B)
  refine .inr ⟨fun q hq => ?_, fstB n :: B, _, _, by rw [hnx]; exact hg, fun b => by rw [takA_past hb (by omega)]; simp, .inr ⟨late_past hb (by omega), ?_⟩⟩
  · rw [ht0] at hq
    simp only [Option.some.injEq] at hq
    rw [← hq, hnx]
  · rw [hnx, hbg]
    simp only [seg2, if_true, hc]
    rfl
/-- Contents one behind the other are read. -/
def Chain : Int → Rdr → List (List Int × Nat) → Rdr → Prop
  | _, R, [], R' => R = R'
  | n, R, x :: xs, R' => ∃ R1, SegR x.1 n R (some R1) ∧ Chain (n + 1) R1 xs R'
theorem chain_rds {P : PD} {f : Int} {Cs : List (List Int × Nat)} (h : Wl P f Cs) : ∀ (k : Nat) (R R' : Rdr), k ≤ Cs.length → Chain (f + k) R (Cs.drop k) R' → Rds P (f + k) R (some (f + Cs.length, R')) := by
  intro k
  generalize hm : Cs.length - k = m
  induction m generalizing k with
  | zero =>
    intro R R' hk hc
    have e : k = Cs.length := by omega
    subst e
    rw [List.drop_length] at hc
    obtain rfl : R = R' := hc
    exact .stop (fun hn => by have := h.segs.1 hn; omega)
  | succ m ih =>
    intro R R' hk hc
    have hkl : k < Cs.length := by omega
    rw [List.drop_eq_getElem_cons hkl] at hc
    obtain ⟨R1, h1, h2⟩ := hc
    have hr := h.read (i := k) (List.getElem?_eq_getElem hkl)
    refine .go (h.segs.2 ⟨by omega, by omega⟩) (r' := R1) (by rw [hr]; exact h1) ?_
    have := ih (k + 1) (by omega) R1 R' (by omega) (by
      rw [show f + ((k + 1 : Nat) : Int) = f + (k : Int) + 1 from by omega]
      exact h2)
    rwa [show f + ((k + 1 : Nat) : Int) = f + (k : Int) + 1 from by omega] at this
/-- SegR tells one thing. -/
theorem segR_det {xs : List Int} {n : Int} {R : Rdr} {x y : Option Rdr} (h : SegR xs n R x) (k : SegR xs n R y) : x = y := by
  rcases h with ⟨q, h1, h2, rfl⟩ | ⟨h0, bs, a, f, hg, hst, hx⟩
  · rcases k with ⟨q', k1, k2, rfl⟩ | ⟨k0, _⟩
    · rfl
    · exact absurd (k0 q h1) h2
  · rcases k with ⟨q', k1, k2, rfl⟩ | ⟨k0, bs', a', f', kg, kst, ky⟩
    · exact absurd (h0 q' k1) k2
    · obtain ⟨rfl, rfl, rfl⟩ := goes_det _ _ _ _ _ _ _ _ _ hg kg hst kst
      rcases hx with ⟨l1, rfl⟩ | ⟨l1, rfl⟩
      · rcases ky with ⟨_, rfl⟩ | ⟨l2, _⟩
        · rfl
        · exact absurd l1 l2
      · rcases ky with ⟨l2, _⟩ | ⟨_, rfl⟩
        · exact absurd l2 l1
        · rfl
theorem rds_det {P : PD} {n : Int} {R : Rdr} {x y : Option (Int × Rdr)} (h : Rds P n R x) : Rds P n R y → x = y := by
  induction h generalizing y with
  | stop h1 =>
    intro k
    cases k with
    | stop _ => rfl
    | bad h2 _ => exact absurd h2 h1
    | go h2 _ _ => exact absurd h2 h1
  | bad h1 h2 =>
    intro k
    cases k with
    | stop k1 => exact absurd h1 k1
    | bad _ _ => rfl
    | go _ k2 _ => cases segR_det h2 k2
  | go h1 h2 _ ih =>
    intro k
    cases k with
    | stop k1 => exact absurd h1 k1
    | bad _ k2 => cases segR_det h2 k2
    | go _ k2 k3 =>
      have := segR_det h2 k2
      simp only [Option.some.injEq] at this
      subst this
      exact ih k3
/-- What Open answers of a disk that is read. -/
theorem open_chain {S S' : Dsk} {f : Int} {Cs : List (List Int × Nat)} {R : Rdr} {er : Int} {x : Option (Lg × List Cm)} (hu : S.up) (h : Wl S.P f Cs) (hf : f ≤ 1073741824) (hc : Chain f ⟨false, 0, []⟩ Cs R) (hn : S.P.n + 3 ≤ 65536) (h64 : Cs.length < 64) (ho : OpenR S f er x S') :
    er = 0 ∧ x = some (Lg.new (f + Cs.length) R.next, R.cs) ∧ S' = (beg S (f + Cs.length) R.next).2 := by
  have hr : Rds S.P f ⟨false, 0, []⟩ (some (f + Cs.length, R)) := by
    have := chain_rds h 0 ⟨false, 0, []⟩ R (Nat.zero_le _) (by simpa using hc)
    simpa using this
  have hf1 := h.f1
  have hb := beg_up hu h R.next hn h64 (by omega)
  have hg := h.nogap f (Int.le_refl _)
  cases ho with
  | arg h1 => omega
  | off _ _ h1 => rw [hu.2] at h1; cases h1
  | gap _ _ _ h1 => rw [hg] at h1; cases h1
  | bad _ _ _ _ h1 => cases rds_det hr h1
  | err _ _ _ _ h1 h2 =>
    have := rds_det hr h1
    simp only [Option.some.injEq, Prod.mk.injEq] at this
    obtain ⟨rfl, rfl⟩ := this
    exact absurd hb.1 h2
  | ok _ _ _ _ h1 h2 =>
    have := rds_det hr h1
    simp only [Option.some.injEq, Prod.mk.injEq] at this
    obtain ⟨rfl, rfl⟩ := this
    exact ⟨rfl, rfl, rfl⟩
end Go.Proofs.YtgifcgniphncdaaGreatDoor

/-
  What a crash leaves of segments, and how it is read. No program in sight.
-/
set_option linter.unusedVariables false
set_option linter.unusedSimpArgs false
namespace Go.Proofs.YtgifcgniphncdaaGreatDoor
open Go.RowKit Go.Maps

/-! ### Commits among the first bodies -/
/-! ### Torn ends -/
/-- How many frames are whole ahead of a place. -/
theorem ex_whole (bs : List (List Int)) (m : Nat) : ∀ (d k : Nat), bs.length - k = d → k ≤ bs.length → eo (bs.take k) ≤ m → ∃ v, k ≤ v ∧ v ≤ bs.length ∧ eo (bs.take v) ≤ m ∧ (v < bs.length → m < eo (bs.take (v + 1)))
  | 0, k, hd, hk, he => ⟨k, Nat.le_refl _, hk, he, fun h => by omega⟩
  | d + 1, k, hd, hk, he => by
    by_cases h : m < eo (bs.take (k + 1))
    · exact ⟨k, Nat.le_refl _, hk, he, fun _ => h⟩
    · obtain ⟨v, h1, h2⟩ := ex_whole bs m d (k + 1) (by omega) (by omega) (by omega)
      exact ⟨v, by omega, h2⟩
/-! ### The disk that a crash leaves -/
end Go.Proofs.YtgifcgniphncdaaGreatDoor

/-
  What the document's examples leave, step by step. No program in sight.
-/
set_option linter.unusedVariables false
set_option linter.unusedSimpArgs false
namespace Go.Proofs.YtgifcgniphncdaaGreatDoor
open Go.RowKit Go.Maps

def w1x : Wr := ⟨⟨#[97]⟩, ⟨#[120]⟩, false⟩
def c1x : Cm := ⟨1, [w1x]⟩
def c2x : Cm := ⟨2, [w1x]⟩
def sA : Dsk := ⟨PD.new, -1, false⟩
def sB : Dsk := (beg sA 1 0).2
def lB : Lg := Lg.new 1 0
def lC : Lg := (lB.put c1x).2
def lD : Lg := (lC.put c2x).2
def q1x := lD.flush sB
def q2x := q1x.2.1.flush q1x.2.2
def q3x := q2x.2.1.flush q2x.2.2
def q4x := q3x.2.1.flush q3x.2.2
def q5x := q4x.2.1.turn q4x.2.2

theorem right1 : rightC c1x = true := by decide +kernel
theorem right2 : rightC c2x = true := by decide +kernel
theorem len1 : (cmb c1x).length = 8 := by decide +kernel
theorem len2 : (cmb c2x).length = 8 := by decide +kernel
theorem put1 : lB.put c1x = ((1, 0), ⟨1, 1, [cmb c1x], 0, 0, 0, 0⟩) := by
  unfold Lg.put
  rw [if_neg (by decide), if_pos right1]
  rfl
theorem put2 : lC.put c2x = ((2, 0), ⟨1, 1, [cmb c1x, cmb c2x], 0, 0, 0, 0⟩) := by
  unfold lC
  rw [put1]
  unfold Lg.put
  rw [if_neg (by decide), if_pos right2]
  rfl
theorem lD_eq : lD = ⟨1, 1, [cmb c1x, cmb c2x], 0, 0, 0, 0⟩ := by unfold lD; rw [put2]
theorem okb12 : Okb [cmb c1x, cmb c2x] := fun b hb => by
  simp only [List.mem_cons, List.not_mem_nil, or_false] at hb
  rcases hb with rfl | rfl
  · exact ⟨by rw [len1]; omega, cmb_byt right1⟩
  · exact ⟨by rw [len2]; omega, cmb_byt right2⟩
theorem upA : sA.up := ⟨rfl, rfl⟩
theorem wlA : Wl sA.P 1 [] := wl_new 1 (by decide) (by decide)
theorem openA {er : Int} {x : Option (Lg × List Cm)} {S' : Dsk} (h : OpenR sA 1 er x S') : er = 0 ∧ x = some (lB, []) ∧ S' = sB := open_chain (R := ⟨false, 0, []⟩) upA wlA (by decide) rfl (by decide) (by decide) h
theorem wlB : Wl sB.P 1 [(fra 0 (fstB 1), (fra 0 (fstB 1)).length)] ∧ sB.P.n = 3 ∧ sB.up := by
  obtain ⟨-, h2, h3, -, h5⟩ := beg_up upA wlA 0 (by decide) (by decide) (by decide)
  exact ⟨h2, h3, h5⟩
theorem fl1 : (fstB 1).length = 2 := by decide +kernel
theorem flen1 : (fra 0 (fstB 1)).length = 32 := by rw [fra_len, fl1]; rfl
theorem fras12 : (fras 1 [cmb c1x, cmb c2x]).length = 64 := by
  rw [fras_len]
  simp only [eo, len1, len2]
  rfl
/-- The first call: all that waits is written. -/
theorem flush1 : q1x.1 = (false, 0) ∧ q1x.2.1 = ⟨1, 3, [], 1, 2, 0, 0⟩ ∧ Wl q1x.2.2.P 1 [(fra 0 (fstB 1) ++ fras 1 [cmb c1x, cmb c2x], 32)] ∧ q1x.2.2.P.n = 4 ∧ q1x.2.2.up := by
  obtain ⟨h1, h2, h3⟩ := wlB
  obtain ⟨a1, a2, a3, -, -, a6, a7⟩ := dsk_app (i := 0) (h3.on _) h1 rfl (xs := fras 1 [cmb c1x, cmb c2x]) (fras_byt 1 _ okb12) (by omega) (by rw [fras12, flen1]; omega)
  rw [show (1 : Int) + ((0 : Nat) : Int) = 1 from rfl] at a1 a2 a3 a6 a7
  have hs : lD.step = 0 := by rw [lD_eq]
  have hop : lD.op sB = sB.app (nm8 1) (fras 1 [cmb c1x, cmb c2x]) := by rw [op_0 hs, lD_eq]
  have hg : lD.goOn sB = ⟨1, 3, [], 1, 2, 0, 0⟩ := by
    rw [goOn_0s hs (by rw [lD_eq]; exact a1), lD_eq]
    rfl
  have hf : q1x = ((decide ((lD.op sB).1 = 0) && (lD.goOn sB).rests, (lD.op sB).1), lD.goOn sB, (lD.op sB).2) := by
    unfold q1x Lg.flush
    rw [if_neg (by rw [lD_eq]; decide), if_neg (by rw [lD_eq]; decide)]
  rw [hf, hg, hop, a1]
  refine ⟨rfl, rfl, ?_, by rw [a3, h2]; rfl, ⟨a6.trans h3.1, a7⟩⟩
  rw [flen1] at a2
  exact a2
theorem flush2 : q2x.1 = (false, 0) ∧ q2x.2.1 = ⟨1, 3, [], 2, 2, 0, 0⟩ ∧ Wl q2x.2.2.P 1 [(fra 0 (fstB 1) ++ fras 1 [cmb c1x, cmb c2x], 96)] ∧ q2x.2.2.P.n = 5 ∧ q2x.2.2.up := by
  obtain ⟨-, hl, h1, h2, h3⟩ := flush1
  obtain ⟨a1, a2, a3, -, -, a6, a7⟩ := dsk_sync (i := 0) (h3.on _) h1 rfl (by omega)
  rw [show (1 : Int) + ((0 : Nat) : Int) = 1 from rfl] at a1 a2 a3 a6 a7
  have hs : q1x.2.1.step = 1 := by rw [hl]
  have hop : q1x.2.1.op q1x.2.2 = q1x.2.2.sync (nm8 1) := by rw [op_1 hs, hl]
  have hg : q1x.2.1.goOn q1x.2.2 = ⟨1, 3, [], 2, 2, 0, 0⟩ := by
    rw [goOn_1s hs (by rw [hl]; exact a1), hl]
  have hf : q2x = ((decide ((q1x.2.1.op q1x.2.2).1 = 0) && (q1x.2.1.goOn q1x.2.2).rests, (q1x.2.1.op q1x.2.2).1), q1x.2.1.goOn q1x.2.2, (q1x.2.1.op q1x.2.2).2) := by
    unfold q2x Lg.flush
    rw [if_neg (by rw [hl]; decide), if_neg (by rw [hl]; decide)]
  rw [hf, hg, hop, a1]
  refine ⟨rfl, rfl, ?_, by rw [a3, h2]; rfl, ⟨a6.trans h3.1, a7⟩⟩
  rw [List.length_append, flen1, fras12] at a2
  exact a2
theorem flen0 : (fra 3 []).length = 32 := by rw [fra_len]; rfl
theorem flush3 : q3x.1 = (false, 0) ∧ q3x.2.1 = ⟨1, 4, [], 3, 2, 0, 0⟩ ∧ Wl q3x.2.2.P 1 [(fra 0 (fstB 1) ++ fras 1 [cmb c1x, cmb c2x] ++ fra 3 [], 96)] ∧ q3x.2.2.P.n = 6 ∧ q3x.2.2.up := by
  obtain ⟨-, hl, h1, h2, h3⟩ := flush2
  obtain ⟨a1, a2, a3, -, -, a6, a7⟩ := dsk_app (i := 0) (h3.on _) h1 rfl (xs := fra 3 []) (fra_byt 3 Byt.nil) (by omega) (by rw [List.length_append, flen1, fras12, flen0]; omega)
  rw [show (1 : Int) + ((0 : Nat) : Int) = 1 from rfl] at a1 a2 a3 a6 a7
  have hs : q2x.2.1.step = 2 := by rw [hl]
  have hop : q2x.2.1.op q2x.2.2 = q2x.2.2.app (nm8 1) (fra 3 []) := by rw [op_2 hs, hl]
  have hg : q2x.2.1.goOn q2x.2.2 = ⟨1, 4, [], 3, 2, 0, 0⟩ := by
    rw [goOn_2s hs (by rw [hl]; exact a1), hl]
    rfl
  have hf : q3x = ((decide ((q2x.2.1.op q2x.2.2).1 = 0) && (q2x.2.1.goOn q2x.2.2).rests, (q2x.2.1.op q2x.2.2).1), q2x.2.1.goOn q2x.2.2, (q2x.2.1.op q2x.2.2).2) := by
    unfold q3x Lg.flush
    rw [if_neg (by rw [hl]; decide), if_neg (by rw [hl]; decide)]
  rw [hf, hg, hop, a1]
  exact ⟨rfl, rfl, a2, by rw [a3, h2]; rfl, ⟨a6.trans h3.1, a7⟩⟩
theorem flush4 : q4x.1 = (true, 0) ∧ q4x.2.1 = ⟨1, 4, [], 0, 0, 2, 0⟩ ∧ Wl q4x.2.2.P 1 [(fra 0 (fstB 1) ++ fras 1 [cmb c1x, cmb c2x] ++ fra 3 [], (fra 0 (fstB 1) ++ fras 1 [cmb c1x, cmb c2x] ++ fra 3 []).length)] ∧ q4x.2.2.P.n = 7 ∧ q4x.2.2.up := by
  obtain ⟨-, hl, h1, h2, h3⟩ := flush3
  obtain ⟨a1, a2, a3, -, -, a6, a7⟩ := dsk_sync (i := 0) (h3.on _) h1 rfl (by omega)
  rw [show (1 : Int) + ((0 : Nat) : Int) = 1 from rfl] at a1 a2 a3 a6 a7
  have hs : q3x.2.1.step = 3 := by rw [hl]
  have hop : q3x.2.1.op q3x.2.2 = q3x.2.2.sync (nm8 1) := by rw [op_3 hs, hl]
  have hg : q3x.2.1.goOn q3x.2.2 = ⟨1, 4, [], 0, 0, 2, 0⟩ := by
    rw [goOn_3s hs (by rw [hl]; exact a1), hl]
    rfl
  have hf : q4x = ((decide ((q3x.2.1.op q3x.2.2).1 = 0) && (q3x.2.1.goOn q3x.2.2).rests, (q3x.2.1.op q3x.2.2).1), q3x.2.1.goOn q3x.2.2, (q3x.2.1.op q3x.2.2).2) := by
    unfold q4x Lg.flush
    rw [if_neg (by rw [hl]; decide), if_neg (by rw [hl]; decide)]
  rw [hf, hg, hop, a1]
  exact ⟨rfl, rfl, a2, by rw [a3, h2]; rfl, ⟨a6.trans h3.1, a7⟩⟩
theorem turn5 : q5x.1 = (2, 0) ∧ q5x.2.1.done = 2 ∧ Wl q5x.2.2.P 1 [(fra 0 (fstB 1) ++ fras 1 [cmb c1x, cmb c2x] ++ fra 3 [], (fra 0 (fstB 1) ++ fras 1 [cmb c1x, cmb c2x] ++ fra 3 []).length), (fra 4 (fstB 2), (fra 4 (fstB 2)).length)] ∧ q5x.2.2.P.n = 10 ∧ q5x.2.2.up := by
  obtain ⟨-, hl, h1, h2, h3⟩ := flush4
  obtain ⟨b1, b2, b3, -, b5⟩ := beg_up h3 h1 4 (by omega) (by simp) (by simp)
  have hfin : q4x.2.1.fin q4x.2.2 3 = (q4x.2.1, q4x.2.2) := fin_stop (.inr (by rw [hl])) 3
  have e2 : (1 : Int) + (([(fra 0 (fstB 1) ++ fras 1 [cmb c1x, cmb c2x] ++ fra 3 [], (fra 0 (fstB 1) ++ fras 1 [cmb c1x, cmb c2x] ++ fra 3 []).length)] : List (List Int × Nat)).length : Int) = 2 := rfl
  rw [e2] at b1 b2 b3 b5
  have hs : q4x.2.1.seg + 1 = 2 := by rw [hl]; rfl
  have hq : q4x.2.1.seq = 4 := by rw [hl]
  have hf : q5x = ((2, 0), { q4x.2.1 with seg := 2, seq := 5, over := 0 }, (beg q4x.2.2 2 4).2) := by
    unfold q5x Lg.turn
    rw [if_neg (by rw [hl]; decide), hfin, if_neg (by rw [hl]; decide)]
    simp only [hs, hq, b1]
    rfl
  rw [hf]
  exact ⟨rfl, by rw [hl], b2, by rw [b3, h2]; rfl, b5⟩
theorem coms12 : coms [cmb c1x, cmb c2x, []] = some [c1x, c2x] := by
  have h1 := rd_C right1
  have h2 := rd_C right2
  have n1 : cmb c1x ≠ [] := fun e => by have := len1; rw [e] at this; cases this
  have n2 : cmb c2x ≠ [] := fun e => by have := len2; rw [e] at this; cases this
  simp only [coms, if_neg n1, if_neg n2, h1.1, h1.2, h2.1, h2.2, if_true]
  rfl
/-- What Open tells of it. -/
theorem open6 {er : Int} {x : Option (Lg × List Cm)} {S' : Dsk} (h : OpenR q5x.2.2 1 er x S') : er = 0 ∧ ∃ L, x = some (L, [c1x, c2x]) := by
  obtain ⟨-, -, h1, h2, h3⟩ := turn5
  have e1 : fra 0 (fstB 1) ++ fras 1 [cmb c1x, cmb c2x] ++ fra 3 [] = fras 0 (fstB 1 :: [cmb c1x, cmb c2x, []]) := by
    simp only [fras, List.append_assoc, List.append_nil, Nat.reduceAdd, Nat.reduceMod, Nat.zero_add]
  have ok3 : Okb [cmb c1x, cmb c2x, []] := fun b hb => by
    simp only [List.mem_cons, List.not_mem_nil, or_false] at hb
    rcases hb with rfl | rfl | rfl
    · exact ⟨by rw [len1]; omega, cmb_byt right1⟩
    · exact ⟨by rw [len2]; omega, cmb_byt right2⟩
    · exact ⟨by simp, Byt.nil⟩
  have g1 : SegR (fra 0 (fstB 1) ++ fras 1 [cmb c1x, cmb c2x] ++ fra 3 []) 1 ⟨false, 0, []⟩ (some ⟨true, 4, [c1x, c2x]⟩) := by
    rw [e1]
    exact segR_clean (n := 1) (R := ⟨false, 0, []⟩) (s := 0) (by decide) (by decide) (fun h => by cases h) ok3 coms12
  have g2 : SegR (fra 4 (fstB 2)) 2 ⟨true, 4, [c1x, c2x]⟩ (some ⟨true, 5, [c1x, c2x]⟩) := by
    rw [← fras_one]
    exact segR_clean (n := 2) (R := ⟨true, 4, [c1x, c2x]⟩) (s := 4) (B := []) (ks := []) (by decide) (by decide) (fun _ => rfl) (fun b hb => by cases hb) rfl
  obtain ⟨h4, h5, -⟩ := open_chain (R := ⟨true, 5, [c1x, c2x]⟩) h3 h1 (by decide) ⟨_, g1, _, g2, rfl⟩ (by rw [h2]; decide) (by decide) h
  exact ⟨h4, _, h5⟩
theorem open7 {S S' : Dsk} {er : Int} {x : Option (Lg × List Cm)} (h : OpenR S 0 er x S') : er = 2 ∧ x = none := by
  cases h with
  | arg _ => exact ⟨rfl, rfl⟩
  | off h1 => omega
  | gap h1 => omega
  | bad h1 => omega
  | err h1 => omega
  | ok h1 => omega
end Go.Proofs.YtgifcgniphncdaaGreatDoor

/-
  A segment of which one byte is another one. No program in sight.
-/
set_option linter.unusedVariables false
set_option linter.unusedSimpArgs false
namespace Go.Proofs.YtgifcgniphncdaaGreatDoor
open Go.RowKit Go.Maps

/-- What a byte that is another one does to frames, however many. -/
theorem poke_all2 {bs : List (List Int)} {first i at_ : Nat} {z : Int} (ho : Okb bs) (hf : first + bs.length + 1 < 18446744073709551616) (hi : i < bs.length) (h1 : eo (bs.take i) ≤ at_) (h2 : at_ < eo (bs.take (i + 1))) (hz : 0 ≤ z ∧ z ≤ 255) (hne : (fras first bs).getD at_ 0 ≠ z) :
    Byt ((fras first bs).set at_ z) ∧ takA ((fras first bs).set at_ z) ((eo (bs.take i) : Nat) : Int) = none ∧ goes ((fras first bs).set at_ z) (bs.take i) 0 first = some (eo (bs.take i), first + i) ∧
      (i + 1 < bs.length → Late ((fras first bs).set at_ z) (eo (bs.take i)) (first + i)) := by
  have hbx : Byt ((fras first bs).set at_ z) := (fras_byt first bs ho).set _ hz
  have hcut := fras_cut first bs i hi (by omega)
  rw [Nat.mod_eq_of_lt (by omega : first + i < 18446744073709551616), Nat.mod_eq_of_lt (by omega : first + i + 1 < 18446744073709551616)] at hcut
  have hsu := eo_succ bs i hi
  obtain ⟨hbl, hbb⟩ := ho.at i hi
  have hpl : (fras first (bs.take i)).length = eo (bs.take i) := fras_len _ _
  have hfl := fra_len (first + i) (bs.getD i [])
  have hrest := fras_byt (first + i + 1) _ (ho.drop (i + 1))
  have hset : (fras first bs).set at_ z = fras first (bs.take i) ++ ((fra (first + i) (bs.getD i [])).set (at_ - eo (bs.take i)) z ++ fras (first + i + 1) (bs.drop (i + 1))) := by
    rw [hcut, List.set_append_right _ _ (by omega), hpl, List.set_append_left _ _ (by rw [hfl]; omega)]
  have h32 := eo_32 (bs.take i)
  generalize bs.getD i [] = b at *
  refine ⟨hbx, ?_, ?_, ?_⟩
  · unfold takA
    split
    · rw [Int.toNat_natCast, hset, List.drop_left' hpl]
      refine poke_tak (by omega) hbb hbl hrest (by omega) hz ?_
      rw [hcut] at hne
      simp only [List.getD] at hne ⊢
      rw [List.getElem?_append_right (by omega), hpl, List.getElem?_append_left (by rw [hfl]; omega)] at hne
      exact hne
    · rfl
  · have := goes_fras hbx (bs.take i) 0 first _ rfl (Nat.zero_le _) (by rw [List.drop_zero]; exact hset) (ho.take i) (by omega)
    rw [this, Nat.zero_add, List.length_take, Nat.min_eq_left (by omega), Nat.mod_eq_of_lt (by omega)]
  · intro hlast
    have hc2 := fras_cut (first + i + 1) (bs.drop (i + 1)) 0 (by simp; omega) (by omega)
    rw [List.take_zero, fras, List.nil_append, Nat.add_zero, Nat.mod_eq_of_lt (by omega : first + i + 1 < 18446744073709551616)] at hc2
    obtain ⟨hbl2, hbb2⟩ := (ho.drop (i + 1)).at 0 (by simp; omega)
    refine ⟨nb b.length, first + i + 1, (bs.drop (i + 1)).getD 0 [], ?_, by omega⟩
    refine takA_at hbx (rest := fras ((first + i + 1 + 1) % 18446744073709551616) ((bs.drop (i + 1)).drop (0 + 1))) (by omega) ?_ (by omega) hbb2 hbl2
    rw [hset, ← List.drop_drop, List.drop_left' hpl, List.drop_left' (by rw [List.length_set, hfl])]
    exact hc2

/-- No commit behind the last seal. -/
def Seald (B : List (List Int)) : Prop := B = [] ∨ ∃ B', B = B' ++ [[]]
theorem seald_coms {B : List (List Int)} {ks : List Cm} (h : Seald B) (hc : coms B = some ks) : coms (B.take (B.length - 1)) = some ks := by
  rcases h with rfl | ⟨B', rfl⟩
  · exact hc
  · have e : (B' ++ [[]]).take ((B' ++ [[]]).length - 1) = B' := by simp
    rw [e]
    have hB : ∃ k, coms B' = some k := by
      cases hk : coms B' with
      | none => rw [coms_none hk] at hc; cases hc
      | some k => exact ⟨k, rfl⟩
    obtain ⟨k, hk⟩ := hB
    rw [coms_snoc hk, if_pos rfl] at hc
    rw [hk]
    exact hc
theorem Late.mono {xs : List Int} {a f f' : Nat} (h : Late xs a f) (hf : f' ≤ f) : Late xs a f' := by
  obtain ⟨i, seq, body, h1, h2⟩ := h
  exact ⟨i, seq, body, h1, by omega⟩
/-- The last frame of a segment that is sealed is one block. -/
theorem last_one {n : Int} {B : List (List Int)} (h : Seald B) : eo (fstB n :: B) = eo ((fstB n :: B).take B.length) + 32 := by
  rcases h with rfl | ⟨B', rfl⟩
  · have := fstB_len n
    have h1 : nb (fstB n).length = 1 := by unfold nb; omega
    simp [eo, h1]
  · have e : (fstB n :: (B' ++ [[]])).take (B' ++ [[]]).length = fstB n :: B' := by simp
    rw [e, ← List.cons_append, eo_append]
    rfl
/-- A byte of a segment is another one: it is refused, or tells the same commits, and one frame less is told. -/
theorem segR_poked {n : Int} {R : Rdr} {q : Nat} {B : List (List Int)} {ks : List Cm} (hn : 0 ≤ n) (hR : R.begun = true → R.next = q) (hR2 : R.next ≤ q) (ho : Okb B) (hc : coms B = some ks) (hse : Seald B) (hq : q + B.length + 2 < 18446744073709551616) {at_ : Nat} {z : Int} (ha : at_ < eo (fstB n :: B)) (hz : 0 ≤ z ∧ z ≤ 255) (hne : (fras q (fstB n :: B)).getD at_ 0 ≠ z) :
    SegR ((fras q (fstB n :: B)).set at_ z) n R none ∨ ∃ R', SegR ((fras q (fstB n :: B)).set at_ z) n R (some R') ∧ R'.cs = R.cs ++ ks ∧ R'.next ≤ q + B.length ∧ (R' = R ∧ ks = [] ∨ R'.begun = true ∧ R'.next = q + B.length) := by
  have ho' : Okb (fstB n :: B) := fun b hb => by
    rcases List.mem_cons.1 hb with rfl | hb
    · exact ⟨by have := fstB_len n; omega, fstB_byt n hn⟩
    · exact ho b hb
  have hlen : (fstB n :: B).length = B.length + 1 := rfl
  obtain ⟨v, v1, v2, v3, v4⟩ := ex_whole (fstB n :: B) at_ _ 0 rfl (Nat.zero_le _) (by simp [eo])
  have hv : v < (fstB n :: B).length := by
    rcases Nat.lt_or_ge v (fstB n :: B).length with h | h
    · exact h
    · rw [List.take_of_length_le h] at v3
      omega
  obtain ⟨p0, p1, p2, p3⟩ := poke_all2 (z := z) ho' (by rw [hlen]; omega) hv v3 (v4 hv) hz hne
  have hsl : ((fras q (fstB n :: B)).set at_ z).length = eo (fstB n :: B) := by rw [List.length_set, fras_len]
  generalize hx : (fras q (fstB n :: B)).set at_ z = x at *
  cases v with
  | zero =>
    have ht0 : takA x 0 = none := by simpa [eo] using p1
    have hnx : R.nx x = R.next := by
      unfold Rdr.nx
      rw [ht0]
      split <;> rfl
    have hbg : R.bg x = R.begun := by unfold Rdr.bg; rw [ht0]; simp
    by_cases hl : 1 < (fstB n :: B).length
    · left
      refine .inr ⟨(fun r hr => by rw [ht0] at hr; cases hr), [], 0, R.next, by rw [hnx]; rfl, (fun b => by rw [show ((0 : Nat) : Int) = 0 from rfl, ht0]; simp), .inl ⟨?_, rfl⟩⟩
      have := p3 hl
      simp only [List.take_zero, eo, Nat.add_zero] at this
      exact this.mono hR2
    · right
      have hB : B = [] := by
        rw [hlen] at hl
        exact List.eq_nil_of_length_eq_zero (by omega)
      subst hB
      have hks : ks = [] := by simpa [coms] using hc.symm
      have hel : eo [fstB n] = 32 := by
        have := last_one (n := n) (B := []) (.inl rfl)
        simpa [eo] using this
      refine ⟨R, .inr ⟨(fun r hr => by rw [ht0] at hr; cases hr), [], 0, R.next, by rw [hnx]; rfl, (fun b => by rw [show ((0 : Nat) : Int) = 0 from rfl, ht0]; simp), .inr ⟨?_, ?_⟩⟩, by rw [hks]; simp, by simpa using hR2, .inl ⟨rfl, hks⟩⟩
      · rintro ⟨i, seq, body, h1, -⟩
        rcases Nat.eq_zero_or_pos i with h | h
        · subst h
          rw [show ((0 + 32 * 0 : Nat) : Int) = 0 from rfl, ht0] at h1
          cases h1
        · rw [takA_past p0 (by rw [hsl, hel]; omega)] at h1
          cases h1
      · rw [hnx, hbg]
        simp [seg2]
  | succ v =>
    have ht0 : takA x 0 = some (q, fstB n) := by
      rw [List.take_succ_cons] at p2
      simp only [goes] at p2
      split at p2
      · rename_i h; exact h
      · cases p2
    have hnx : R.nx x = q := by
      unfold Rdr.nx
      split
      · rename_i h; exact hR h
      · rw [ht0]
    have hbg : R.bg x = true := by unfold Rdr.bg; rw [ht0]; simp
    have hfst : ∀ r, takA x 0 = some r → r.1 = R.nx x := fun r hr => by
      rw [ht0] at hr
      simp only [Option.some.injEq] at hr
      rw [← hr, hnx]
    have hstop : ∀ b, takA x ((eo ((fstB n :: B).take (v + 1)) : Nat) : Int) ≠ some (q + (v + 1), b) := fun b => by rw [p1]; simp
    by_cases hl : v + 1 + 1 < (fstB n :: B).length
    · left
      exact .inr ⟨hfst, (fstB n :: B).take (v + 1), _, _, by rw [hnx]; exact p2, hstop, .inl ⟨p3 hl, rfl⟩⟩
    · right
      have hvB : v + 1 = B.length := by rw [hlen] at hl hv; omega
      have hlo := last_one (n := n) hse
      have hct := seald_coms hse hc
      refine ⟨⟨true, q + B.length, R.cs ++ ks⟩, .inr ⟨hfst, (fstB n :: B).take (v + 1), _, _, by rw [hnx]; exact p2, hstop, .inr ⟨?_, ?_⟩⟩, rfl, Nat.le_refl _, .inr ⟨rfl, rfl⟩⟩
      · rintro ⟨i, seq, body, h1, -⟩
        rcases Nat.eq_zero_or_pos i with h | h
        · subst h
          rw [Nat.mul_zero, Nat.add_zero, p1] at h1
          cases h1
        · rw [takA_past p0 (by rw [hsl, hlo, hvB]; omega)] at h1
          cases h1
      · rw [hnx, hbg, List.take_succ_cons]
        have e : B.take v = B.take (B.length - 1) := by rw [← hvB]; rfl
        simp only [seg2, if_true, e, hct]
        simp only [Option.map_some, Option.some.injEq, Rdr.mk.injEq, true_and, and_true]
        rw [List.length_take, Nat.mod_eq_of_lt (by omega)]
        omega
end Go.Proofs.YtgifcgniphncdaaGreatDoor
