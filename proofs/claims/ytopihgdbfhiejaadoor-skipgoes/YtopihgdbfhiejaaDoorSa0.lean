/-
  The list without memory: its towers, what stands behind each on each level, the cells that no tower has yet.
-/
import Derived.Test.YtopihgdbfhiejaaDoorC7
set_option linter.unusedVariables false
set_option linter.unusedSimpArgs false
namespace Go.Proofs.YtopihgdbfhiejaaDoor
open Go.RowKit

/-- Bytes in order. -/
def bl (k : ByteArray) : List UInt8 := k.data.toList
def Blw (a b : ByteArray) : Prop := bl a < bl b
theorem Blw.irrefl {a : ByteArray} : ¬ Blw a a := List.lt_irrefl _
theorem Blw.trans {a b c : ByteArray} (h : Blw a b) (h2 : Blw b c) : Blw a c := List.lt_trans h h2
theorem bl_inj {a b : ByteArray} (h : bl a = bl b) : a = b := by
  cases a; cases b
  unfold bl at h
  simp only at h
  congr
  exact Array.toList_inj.1 h
theorem Blw.tri (a b : ByteArray) : Blw a b ∨ a = b ∨ Blw b a := by
  by_cases h1 : Blw a b
  · exact .inl h1
  · by_cases h2 : Blw b a
    · exact .inr (.inr h2)
    · exact .inr (.inl (bl_inj (List.le_antisymm (List.not_lt.1 h2) (List.not_lt.1 h1))))
theorem Blw.empty {a : ByteArray} : ¬ Blw a .empty := by
  unfold Blw
  show ¬ bl a < []
  exact List.not_lt_nil _
theorem Blw.asymm {a b : ByteArray} (h : Blw a b) : ¬ Blw b a := fun q => Blw.irrefl (h.trans q)

/-- May a text be a key? -/
def good (k : ByteArray) : Bool := decide (1 ≤ k.size) && decide (k.size ≤ 16)
theorem good_size {k : ByteArray} (h : good k = true) : 1 ≤ k.size ∧ k.size ≤ 16 := by simpa [good] using h
theorem good_ne {k : ByteArray} (h : good k = true) : k ≠ .empty := by
  rintro rfl
  have := (good_size h).1
  simp at this

/-- A tower: h: its height, lk: on how many levels it is linked (neither is in memory); ns: its cells' numbers. -/
structure Tw where
  k : ByteArray
  r : Int
  h : Nat
  lk : Nat
  cs : Nat → Nat
  fs : Nat → Nat
  ns : Nat → Nat

structure Sl where
  tw : List Tw
  sp : List Nat

def t0 : Tw := ⟨.empty, 0, 0, 0, fun _ => 0, fun _ => 0, fun _ => 0⟩
def Sl.at (s : Sl) (i : Nat) : Tw := s.tw.getD i t0
def Tw.cells (t : Tw) : List Nat := (List.range t.h).map t.cs
def Sl.own (s : Sl) : List Nat := (s.tw.map Tw.cells).flatten
def Sl.cells (s : Sl) : List Nat := s.own ++ s.sp
/-- What stands behind a tower on a level. -/
def Sl.nx (s : Sl) (i l : Nat) : Nat := if (s.at i).ns l = 0 then (s.at i).fs l else (s.at i).ns l
def upd (f : Nat → Nat) (l x : Nat) : Nat → Nat := fun y => if y = l then x else f y
theorem upd_same (f : Nat → Nat) (l x : Nat) : upd f l x l = x := by simp [upd]
theorem upd_ne (f : Nat → Nat) {l x y : Nat} (h : y ≠ l) : upd f l x y = f y := by simp [upd, h]

/-- What holds of a list, whatever its cells. -/
structure Sl.ok (s : Sl) : Prop where
  n1 : 1 ≤ s.tw.length
  hd : (s.at 0).k = .empty ∧ (s.at 0).h = 8 ∧ (s.at 0).lk = 8 ∧ (s.at 0).r = 0
  sh : ∀ i, i < s.tw.length → 1 ≤ (s.at i).lk ∧ (s.at i).lk ≤ (s.at i).h ∧ (s.at i).h ≤ 8
  gd : ∀ i, 1 ≤ i → i < s.tw.length → good (s.at i).k = true
  zl : ∀ i, i < s.tw.length → ∀ l, (s.at i).lk ≤ l → (s.at i).ns l = 0
  nl : ∀ i, i < s.tw.length → ∀ l, (s.at i).ns l < s.tw.length
  nx : ∀ i, i < s.tw.length → ∀ l, l < (s.at i).lk → s.nx i l ≠ 0 → s.nx i l < s.tw.length ∧ l < (s.at (s.nx i l)).lk ∧ Blw (s.at i).k (s.at (s.nx i l)).k
  l0 : ∀ i j, i < s.tw.length → j < s.tw.length → Blw (s.at i).k (s.at j).k → s.nx i 0 ≠ 0 ∧ ¬ Blw (s.at j).k (s.at (s.nx i 0)).k
  one : ∀ i j, i < s.tw.length → j < s.tw.length → (s.at i).k = (s.at j).k → i = j

theorem at_set {s : Sl} {i j : Nat} {t : Tw} {sp : List Nat} (hi : i < s.tw.length) : (Sl.mk (s.tw.set i t) sp).at j = if j = i then t else s.at j := by
  unfold Sl.at
  show (s.tw.set i t).getD j t0 = _
  rw [getD_set]
  by_cases e : j = i
  · rw [if_pos ⟨e, hi⟩, if_pos e]
  · rw [if_neg (fun q => e q.1), if_neg e]

/-- A tower is linked on a level behind another one. -/
def Sl.raised (s : Sl) (i j l : Nat) : Sl :=
  ⟨(s.tw.set i { s.at i with ns := upd (s.at i).ns l j }).set j { s.at j with fs := upd (s.at j).fs l (s.nx i l), lk := l + 1 }, s.sp⟩
/-- What stood behind it is written, ahead of that. -/
def Sl.fset (s : Sl) (j l x : Nat) : Sl := ⟨s.tw.set j { s.at j with fs := upd (s.at j).fs l x }, s.sp⟩
/-- A new tower. -/
def newT (s : Sl) (i : Nat) (k : ByteArray) (r : Int) (cs : List Nat) : Tw := ⟨k, r, cs.length, 1, fun l => cs.getD l 0, upd (fun _ => 0) 0 (s.nx i 0), fun _ => 0⟩
def Sl.linked (s : Sl) (i : Nat) (k : ByteArray) (r : Int) (cs : List Nat) : Sl :=
  ⟨(s.tw.set i { s.at i with ns := upd (s.at i).ns 0 s.tw.length }) ++ [newT s i k r cs], s.sp.filter fun c => !cs.contains c⟩
def Sl.taken (s : Sl) (c : Nat) : Sl := ⟨s.tw, s.sp ++ [c]⟩
def Sl.given (s : Sl) (c : Nat) : Sl := ⟨s.tw, s.sp.filter fun x => !(x == c)⟩

section
variable {s : Sl} {i j l : Nat}

theorem raised_len : (s.raised i j l).tw.length = s.tw.length := by simp [Sl.raised]
theorem raised_at (hi : i < s.tw.length) (hj : j < s.tw.length) (x : Nat) : (s.raised i j l).at x = if x = j then { s.at j with fs := upd (s.at j).fs l (s.nx i l), lk := l + 1 } else if x = i then { s.at i with ns := upd (s.at i).ns l j } else s.at x := by
  have h1 := at_set (s := ⟨s.tw.set i { s.at i with ns := upd (s.at i).ns l j }, s.sp⟩) (i := j) (j := x) (t := { s.at j with fs := upd (s.at j).fs l (s.nx i l), lk := l + 1 }) (sp := s.sp) (by simpa using hj)
  rw [at_set hi] at h1
  exact h1

/-- What is linked stands where it must. -/
theorem Sl.ok.raised (h : s.ok) (hi : i < s.tw.length) (hj : j < s.tw.length) (hl : l = (s.at j).lk) (hh : l < (s.at j).h) (hli : l < (s.at i).lk) (hij : Blw (s.at i).k (s.at j).k) (hn : s.nx i l = 0 ∨ Blw (s.at j).k (s.at (s.nx i l)).k) : (s.raised i j l).ok := by
  have hne : i ≠ j := by rintro rfl; omega
  have hl1 : 1 ≤ l := by have := (h.sh j hj).1; omega
  have hj0 : j ≠ 0 := by
    rintro rfl
    rw [h.hd.1] at hij
    exact Blw.empty hij
  have ha := fun x => raised_at (l := l) hi hj x
  have hk : ∀ x, ((s.raised i j l).at x).k = (s.at x).k := fun x => by
    rw [ha]; split
    · rename_i e; rw [e]
    · split
      · rename_i e; rw [e]
      · rfl
  have hhh : ∀ x, ((s.raised i j l).at x).h = (s.at x).h := fun x => by
    rw [ha]; split
    · rename_i e; rw [e]
    · split
      · rename_i e; rw [e]
      · rfl
  have hr : ∀ x, ((s.raised i j l).at x).r = (s.at x).r := fun x => by
    rw [ha]; split
    · rename_i e; rw [e]
    · split
      · rename_i e; rw [e]
      · rfl
  have hlk : ∀ x, ((s.raised i j l).at x).lk = if x = j then l + 1 else (s.at x).lk := fun x => by
    rw [ha]; split
    · rfl
    · split
      · rename_i e; rw [e]
      · rfl
  have hns : ∀ x y, ((s.raised i j l).at x).ns y = if x = i ∧ y = l then j else (s.at x).ns y := fun x y => by
    rw [ha]; split
    · rename_i e
      rw [if_neg (fun q => hne (q.1.symm.trans e)), e]
    · split
      · rename_i e
        show upd _ _ _ _ = _
        unfold upd
        by_cases e2 : y = l
        · rw [if_pos e2, if_pos ⟨e, e2⟩]
        · rw [if_neg e2, if_neg (fun q => e2 q.2), e]
      · rename_i e
        rw [if_neg (fun q => e q.1)]
  have hfs : ∀ x y, ((s.raised i j l).at x).fs y = if x = j ∧ y = l then s.nx i l else (s.at x).fs y := fun x y => by
    rw [ha]
    by_cases e : x = j
    · rw [if_pos e]
      show upd _ _ _ _ = _
      unfold upd
      by_cases e2 : y = l
      · rw [if_pos e2, if_pos ⟨e, e2⟩]
      · rw [if_neg e2, if_neg (fun q => e2 q.2), e]
    · rw [if_neg e]
      by_cases e3 : x = i
      · rw [if_pos e3, if_neg (fun q => e q.1), e3]
      · rw [if_neg e3, if_neg (fun q => e q.1)]
  have hnx : ∀ x y, (s.raised i j l).nx x y = if x = i ∧ y = l then j else if x = j ∧ y = l then s.nx i l else s.nx x y := fun x y => by
    unfold Sl.nx
    rw [hns, hfs]
    by_cases e1 : x = i ∧ y = l
    · rw [if_pos e1, if_pos e1, if_neg hj0]
    · rw [if_neg e1, if_neg e1]
      by_cases e2 : x = j ∧ y = l
      · rw [if_pos e2, if_pos e2, if_pos]
        · rfl
        · rw [e2.1]; exact h.zl j hj y (by omega)
      · rw [if_neg e2, if_neg e2]
  refine ⟨by rw [raised_len]; exact h.n1, ?_, fun x hx => ?_, fun x h1 hx => ?_, fun x hx y hy => ?_, fun x hx y => ?_, fun x hx y hy hz => ?_, fun x y hx hy hxy => ?_, fun x y hx hy hxy => ?_⟩
  · rw [hk, hhh, hr, hlk, if_neg (Ne.symm hj0)]
    exact h.hd
  · rw [raised_len] at hx
    have h2 := h.sh x hx
    rw [hlk, hhh]
    split
    · rename_i e; subst e; omega
    · exact h2
  · rw [raised_len] at hx
    rw [hk]; exact h.gd x h1 hx
  · rw [raised_len] at hx
    rw [hlk] at hy
    rw [hns]
    split at hy
    · rename_i e
      rw [if_neg (fun q => by omega)]
      rw [e]; exact h.zl j hj y (by omega)
    · rename_i e
      rw [if_neg]
      · exact h.zl x hx y hy
      · rintro ⟨rfl, rfl⟩; omega
  · rw [raised_len] at hx ⊢
    rw [hns]
    split
    · exact hj
    · exact h.nl x hx y
  · rw [raised_len] at hx ⊢
    rw [hnx] at hz ⊢
    rw [hlk] at hy
    by_cases e1 : x = i ∧ y = l
    · rw [if_pos e1] at hz ⊢
      rw [hk, hk, hlk, if_pos rfl]
      exact ⟨hj, by omega, by rw [e1.1]; exact hij⟩
    · rw [if_neg e1] at hz ⊢
      by_cases e2 : x = j ∧ y = l
      · rw [if_pos e2] at hz ⊢
        obtain ⟨q1, q2, q3⟩ := h.nx i hi l hli hz
        rw [hk, hk, hlk]
        refine ⟨q1, ?_, ?_⟩
        · split
          · omega
          · rw [e2.2]; exact q2
        · rw [e2.1]
          exact hn.resolve_left hz
      · rw [if_neg e2] at hz ⊢
        have hy2 : y < (s.at x).lk := by
          split at hy
          · rename_i e
            rw [e, ← hl]
            have : ¬ y = l := fun q => e2 ⟨e, q⟩
            omega
          · exact hy
        obtain ⟨q1, q2, q3⟩ := h.nx x hx y hy2 hz
        rw [hk, hk, hlk]
        refine ⟨q1, ?_, q3⟩
        split
        · rename_i e; rw [e, ← hl] at q2; omega
        · exact q2
  · rw [raised_len] at hx hy
    rw [hk, hk] at hxy
    rw [hnx, if_neg (fun q => by omega), if_neg (fun q => by omega), hk, hk]
    exact h.l0 x y hx hy hxy
  · rw [raised_len] at hx hy
    rw [hk, hk] at hxy
    exact h.one x y hx hy hxy

theorem fset_at {x : Nat} (hj : j < s.tw.length) (y : Nat) : (s.fset j l x).at y = if y = j then { s.at j with fs := upd (s.at j).fs l x } else s.at y := at_set hj
theorem fset_len {x : Nat} : (s.fset j l x).tw.length = s.tw.length := by simp [Sl.fset]
theorem fset_nx {x : Nat} (h : s.ok) (hj : j < s.tw.length) {a b : Nat} (hb : ¬ (a = j ∧ b = l)) : (s.fset j l x).nx a b = s.nx a b := by
  unfold Sl.nx
  rw [fset_at hj]
  split
  · rename_i e
    show (if (s.at j).ns b = 0 then upd _ _ _ _ else _) = _
    rw [upd_ne _ (fun q => hb ⟨e, q⟩), e]
  · rfl
theorem Sl.ok.fset (h : s.ok) {x : Nat} (hj : j < s.tw.length) (hl : (s.at j).lk ≤ l) : (s.fset j l x).ok := by
  have ha := fun y => fset_at (s := s) (l := l) (x := x) hj y
  have hk : ∀ x', ((s.fset j l x).at x').k = (s.at x').k ∧ ((s.fset j l x).at x').h = (s.at x').h ∧ ((s.fset j l x).at x').r = (s.at x').r ∧ ((s.fset j l x).at x').lk = (s.at x').lk ∧ ((s.fset j l x).at x').ns = (s.at x').ns := fun y => by
    rw [ha]; split
    · rename_i e; rw [e]; exact ⟨rfl, rfl, rfl, rfl, rfl⟩
    · exact ⟨rfl, rfl, rfl, rfl, rfl⟩
  have hl1 : 1 ≤ l := by have := (h.sh j hj).1; omega
  refine ⟨by rw [fset_len]; exact h.n1, ?_, fun x hx => ?_, fun x h1 hx => ?_, fun x hx y hy => ?_, fun x hx y => ?_, fun x hx y hy hz => ?_, fun x y hx hy hxy => ?_, fun x y hx hy hxy => ?_⟩
  · rw [(hk 0).1, (hk 0).2.1, (hk 0).2.2.2.1, (hk 0).2.2.1]; exact h.hd
  · rw [fset_len] at hx
    rw [(hk x).2.1, (hk x).2.2.2.1]; exact h.sh x hx
  · rw [fset_len] at hx
    rw [(hk x).1]; exact h.gd x h1 hx
  · rw [fset_len] at hx
    rw [(hk x).2.2.2.1] at hy
    rw [(hk x).2.2.2.2]; exact h.zl x hx y hy
  · rw [fset_len] at hx ⊢
    rw [(hk x).2.2.2.2]; exact h.nl x hx y
  · rw [fset_len] at hx ⊢
    rw [(hk x).2.2.2.1] at hy
    rw [fset_nx h hj (by rintro ⟨rfl, rfl⟩; omega)] at hz ⊢
    rw [(hk _).2.2.2.1, (hk _).1, (hk _).1]
    exact h.nx x hx y hy hz
  · rw [fset_len] at hx hy
    rw [(hk x).1, (hk y).1] at hxy
    rw [fset_nx h hj (by rintro ⟨_, q⟩; omega), (hk _).1, (hk _).1]
    exact h.l0 x y hx hy hxy
  · rw [fset_len] at hx hy
    rw [(hk x).1, (hk y).1] at hxy
    exact h.one x y hx hy hxy

theorem linked_len {k : ByteArray} {r : Int} {cs : List Nat} : (s.linked i k r cs).tw.length = s.tw.length + 1 := by simp [Sl.linked]
theorem linked_at {k : ByteArray} {r : Int} {cs : List Nat} (hi : i < s.tw.length) (x : Nat) : (s.linked i k r cs).at x = if x = s.tw.length then newT s i k r cs else if x = i then { s.at i with ns := upd (s.at i).ns 0 s.tw.length } else s.at x := by
  have h1 := at_set (s := s) (i := i) (j := x) (t := { s.at i with ns := upd (s.at i).ns 0 s.tw.length }) (sp := s.sp) hi
  by_cases e : x = s.tw.length
  · rw [if_pos e]
    unfold Sl.at Sl.linked
    rw [e]
    simp [List.getD]
  · rw [if_neg e, ← h1]
    unfold Sl.at Sl.linked
    simp only [List.getD]
    rw [List.getElem?_append]
    split
    · rfl
    · rename_i h2
      simp at h2
      rw [List.getElem?_eq_none (by simp; omega), List.getElem?_eq_none (by simp; omega)]

theorem Sl.ok.linked (h : s.ok) {k : ByteArray} {r : Int} {cs : List Nat} (hi : i < s.tw.length) (hg : good k = true) (hc : 1 ≤ cs.length ∧ cs.length ≤ 8) (hik : Blw (s.at i).k k) (hn : s.nx i 0 = 0 ∨ Blw k (s.at (s.nx i 0)).k) : (s.linked i k r cs).ok := by
  have ha := fun x => linked_at (k := k) (r := r) (cs := cs) hi x
  obtain ⟨L, hL⟩ : ∃ L, L = s.tw.length := ⟨_, rfl⟩
  have hiL : i ≠ L := by omega
  have hL0 : L ≠ 0 := by omega
  have hk : ∀ x, x ≠ L → ((s.linked i k r cs).at x).k = (s.at x).k ∧ ((s.linked i k r cs).at x).h = (s.at x).h ∧ ((s.linked i k r cs).at x).r = (s.at x).r ∧ ((s.linked i k r cs).at x).lk = (s.at x).lk ∧ ((s.linked i k r cs).at x).fs = (s.at x).fs := fun x hx => by
    rw [ha, if_neg (by omega)]; split
    · rename_i e; rw [e]; exact ⟨rfl, rfl, rfl, rfl, rfl⟩
    · exact ⟨rfl, rfl, rfl, rfl, rfl⟩
  have hLt : (s.linked i k r cs).at L = newT s i k r cs := by rw [ha, if_pos hL]
  have hns : ∀ x y, x ≠ L → ((s.linked i k r cs).at x).ns y = if x = i ∧ y = 0 then L else (s.at x).ns y := fun x y hx => by
    rw [ha, if_neg (by omega)]; split
    · rename_i e
      show upd _ _ _ _ = _
      unfold upd
      by_cases e2 : y = 0
      · rw [if_pos e2, if_pos ⟨e, e2⟩, hL]
      · rw [if_neg e2, if_neg (fun q => e2 q.2), e]
    · rename_i e
      rw [if_neg (fun q => e q.1)]
  have hnx : ∀ x y, x ≠ L → (s.linked i k r cs).nx x y = if x = i ∧ y = 0 then L else s.nx x y := fun x y hx => by
    unfold Sl.nx
    rw [hns x y hx, (hk x hx).2.2.2.2]
    by_cases e1 : x = i ∧ y = 0
    · rw [if_pos e1, if_pos e1, if_neg hL0]
    · rw [if_neg e1, if_neg e1]
  have hnxL : (s.linked i k r cs).nx L 0 = s.nx i 0 := by
    unfold Sl.nx
    rw [hLt]
    simp [newT, upd]
    rfl
  have hLk : ((s.linked i k r cs).at L).k = k := by rw [hLt]; rfl
  have hLl : ((s.linked i k r cs).at L).lk = 1 := by rw [hLt]; rfl
  have hnxlt : s.nx i 0 ≠ 0 → s.nx i 0 < L := fun q => by rw [hL]; exact (h.nx i hi 0 (h.sh i hi).1 q).1
  refine ⟨by rw [linked_len]; omega, ?_, fun x hx => ?_, fun x h1 hx => ?_, fun x hx y hy => ?_, fun x hx y => ?_, fun x hx y hy hz => ?_, fun x y hx hy hxy => ?_, fun x y hx hy hxy => ?_⟩
  · obtain ⟨a, b, c, d, e⟩ := hk 0 (Ne.symm hL0)
    rw [a, b, c, d]; exact h.hd
  · rw [linked_len, ← hL] at hx
    by_cases e : x = L
    · rw [e, hLl, hLt]
      exact ⟨Nat.le_refl _, hc.1, hc.2⟩
    · obtain ⟨a, b, c, d, _⟩ := hk x e
      rw [b, d]; exact h.sh x (by omega)
  · rw [linked_len, ← hL] at hx
    by_cases e : x = L
    · rw [e, hLk]; exact hg
    · rw [(hk x e).1]; exact h.gd x h1 (by omega)
  · rw [linked_len, ← hL] at hx
    by_cases e : x = L
    · rw [e, hLt]; rfl
    · rw [(hk x e).2.2.2.1] at hy
      rw [hns x y e, if_neg]
      · exact h.zl x (by omega) y hy
      · rintro ⟨rfl, rfl⟩
        have := (h.sh x hi).1
        omega
  · rw [linked_len, ← hL] at hx ⊢
    by_cases e : x = L
    · rw [e, hLt]; show 0 < _; omega
    · rw [hns x y e]
      split
      · omega
      · have := h.nl x (by omega) y; omega
  · rw [linked_len, ← hL] at hx ⊢
    by_cases e : x = L
    · subst e
      rw [hLl] at hy
      have hy0 : y = 0 := by omega
      subst hy0
      rw [hnxL] at hz ⊢
      have hlt := hnxlt hz
      obtain ⟨q1, q2, q3⟩ := h.nx i hi 0 (h.sh i hi).1 hz
      obtain ⟨a, b, c, d, _⟩ := hk (s.nx i 0) (by omega)
      rw [hLk, a, d]
      exact ⟨by omega, q2, hn.resolve_left hz⟩
    · rw [(hk x e).2.2.2.1] at hy
      rw [hnx x y e] at hz ⊢
      by_cases e1 : x = i ∧ y = 0
      · rw [if_pos e1] at hz ⊢
        rw [hLl, hLk, (hk x e).1, e1.1]
        exact ⟨by omega, by omega, hik⟩
      · rw [if_neg e1] at hz ⊢
        obtain ⟨q1, q2, q3⟩ := h.nx x (by omega) y hy hz
        obtain ⟨a, b, c, d, _⟩ := hk (s.nx x y) (by omega)
        rw [a, d, (hk x e).1]
        exact ⟨by omega, q2, q3⟩
  · rw [linked_len, ← hL] at hx hy
    by_cases ex : x = L
    · subst ex
      by_cases ey : y = x
      · subst ey; exact absurd hxy Blw.irrefl
      · rw [hLk, (hk y ey).1] at hxy
        obtain ⟨q1, q2⟩ := h.l0 i y hi (by omega) (hik.trans hxy)
        rw [hnxL]
        have := hnxlt q1
        rw [(hk y ey).1, (hk (s.nx i 0) (by omega)).1]
        exact ⟨q1, q2⟩
    · rw [(hk x ex).1] at hxy
      by_cases ey : y = L
      · subst ey
        rw [hLk] at hxy ⊢
        rw [hnx x 0 ex]
        by_cases ei : x = i ∧ 0 = 0
        · rw [if_pos ei, hLk]
          exact ⟨hL0, Blw.irrefl⟩
        · rw [if_neg ei]
          have hxi : Blw (s.at x).k (s.at i).k := by
            rcases Blw.tri (s.at x).k (s.at i).k with q | q | q
            · exact q
            · exact absurd ⟨h.one x i (by omega) hi q, rfl⟩ ei
            · obtain ⟨q1, q2⟩ := h.l0 i x hi (by omega) q
              exact absurd (hxy.trans (hn.resolve_left q1)) q2
          obtain ⟨q1, q2⟩ := h.l0 x i (by omega) hi hxi
          have hlt := (h.nx x (by omega) 0 (h.sh x (by omega)).1 q1).1
          rw [(hk (s.nx x 0) (by omega)).1]
          refine ⟨q1, fun q => q2 ?_⟩
          exact hik.trans q
      · rw [(hk y ey).1] at hxy ⊢
        rw [hnx x 0 ex]
        obtain ⟨q1, q2⟩ := h.l0 x y (by omega) (by omega) hxy
        by_cases ei : x = i ∧ 0 = 0
        · rw [if_pos ei, hLk]
          refine ⟨hL0, fun q => ?_⟩
          rw [ei.1] at q1 q2
          exact q2 (q.trans (hn.resolve_left q1))
        · rw [if_neg ei]
          have hlt := (h.nx x (by omega) 0 (h.sh x (by omega)).1 q1).1
          rw [(hk (s.nx x 0) (by omega)).1]
          exact ⟨q1, q2⟩
  · rw [linked_len, ← hL] at hx hy
    have hno : ∀ x, x ≠ L → x < L → (s.at x).k ≠ k := fun x _ hx q => by
      rcases Blw.tri (s.at x).k (s.at i).k with q2 | q2 | q2
      · rw [q] at q2; exact Blw.irrefl (q2.trans hik)
      · rw [q] at q2; rw [q2] at hik; exact Blw.irrefl hik
      · obtain ⟨q3, q4⟩ := h.l0 i x hi (by omega) q2
        rw [q] at q4
        exact q4 (hn.resolve_left q3)
    by_cases ex : x = L
    · by_cases ey : y = L
      · omega
      · rw [ex, hLk, (hk y ey).1] at hxy
        exact absurd hxy.symm (hno y ey (by omega))
    · by_cases ey : y = L
      · rw [ey, hLk, (hk x ex).1] at hxy
        exact absurd hxy (hno x ex (by omega))
      · rw [(hk x ex).1, (hk y ey).1] at hxy
        exact h.one x y (by omega) (by omega) hxy

/-- Behind a place on the lowest level, where all is greater: what there is of all keys. -/
theorem Sl.ok.ends (h : s.ok) {k : ByteArray} (hi : i < s.tw.length) (hp : i = 0 ∨ Blw (s.at i).k k) (x : Nat) (h1 : 1 ≤ x) (hx : x < s.tw.length) : Blw (s.at x).k k ∨ (s.nx i 0 ≠ 0 ∧ ¬ Blw (s.at x).k (s.at (s.nx i 0)).k) := by
  rcases Blw.tri (s.at i).k (s.at x).k with q | q | q
  · exact .inr (h.l0 i x hi hx q)
  · have e := h.one i x hi hx q
    subst e
    exact .inl (hp.resolve_left (by omega))
  · left
    rcases hp with e | e
    · subst e
      rw [h.hd.1] at q
      exact absurd q Blw.empty
    · exact q.trans e
end
end Go.Proofs.YtopihgdbfhiejaaDoor
