/-
  The document's own rows of names: find, without.
-/
import Derived.Test.YthfcjfhaoabdeaaGreatDoorRz47
import Derived.Laws.OwnMore
import Derived.WalkSmall
import Derived.Maps.AppendAt
import Derived.Lib.OwnKind
import Derived.Laws.AppendOwnNone
import Derived.BigQuiet
set_option linter.unusedVariables false
set_option linter.unusedSimpArgs false
namespace Go.Proofs.YthfcjfhaoabdeaaGreatDoor
open Go.RowKit Go.Maps

/-- A row of names, with the number of each one's file. -/
abbrev NL := List (ByteArray × Int)
theorem str_test (a b : ByteArray) : (a.toList == b.toList) = decide (a = b) := by
  rw [ByteArray.toList_eq, ByteArray.toList_eq]
  by_cases h : a = b
  · subst h; simp
  · have : ¬ a.data.toList = b.data.toList := fun e => h (ByteArray.ext (Array.toList_inj.1 e))
    rw [decide_eq_false h]
    exact beq_eq_false_iff_ne.2 this

end Go.Proofs.YthfcjfhaoabdeaaGreatDoor

/-
  The document's own rows of names: with, changed.
-/
set_option linter.unusedVariables false
set_option linter.unusedSimpArgs false
namespace Go.Proofs.YthfcjfhaoabdeaaGreatDoor
open Go.RowKit Go.Maps

def nless (a b : ByteArray) : Bool := Op.bytesLess a.toList b.toList
theorem while_at {α : Type} (f : α → Bool) : ∀ (l : List α) (k : Nat), (∀ x ∈ l.take k, f x = true) → (∀ x, l[k]? = some x → f x = false) → l.takeWhile f = l.take k ∧ l.dropWhile f = l.drop k
  | [], k, _, _ => by simp
  | x :: l, 0, _, h => by
    have := h x rfl
    simp [List.takeWhile, List.dropWhile, this]
  | x :: l, k + 1, h1, h2 => by
    have hx : f x = true := h1 x (by simp)
    obtain ⟨e1, e2⟩ := while_at f l k (fun y hy => h1 y (by simp [hy])) (fun y hy => h2 y (by simpa using hy))
    simp [List.takeWhile, List.dropWhile, hx, e1, e2]

end Go.Proofs.YthfcjfhaoabdeaaGreatDoor

/-
  The document's rows of names and the rows without memory; changed.
-/
set_option linter.unusedVariables false
set_option linter.unusedSimpArgs false
namespace Go.Proofs.YthfcjfhaoabdeaaGreatDoor
open Go.RowKit Go.Maps

theorem before_less : ∀ x y : List UInt8, bytesBefore x y = Op.bytesLess x y
  | [], [] => rfl
  | [], _ :: _ => rfl
  | _ :: _, [] => rfl
  | a :: x, b :: y => by
    show (decide (a < b) || (a == b && bytesBefore x y)) = (decide (a < b) || (a == b && Op.bytesLess x y))
    rw [before_less x y]
theorem less_tri : ∀ x y : List UInt8, x ≠ y → Op.bytesLess x y = !Op.bytesLess y x
  | [], [], h => absurd rfl h
  | [], _ :: _, _ => rfl
  | _ :: _, [], _ => rfl
  | a :: x, b :: y, h => by
    show (decide (a < b) || (a == b && Op.bytesLess x y)) = !(decide (b < a) || (b == a && Op.bytesLess y x))
    by_cases e : a = b
    · subst e
      have hn : x ≠ y := fun e => h (by rw [e])
      have := less_tri x y hn
      simp [this]
    · have e2 : b ≠ a := fun e3 => e e3.symm
      have h1 : (a == b) = false := by simpa using e
      have h2 : (b == a) = false := by simpa using e2
      rw [h1, h2]
      simp only [Bool.false_and, Bool.or_false]
      by_cases hlt : a < b
      · have : ¬ b < a := fun h3 => absurd (UInt8.lt_trans hlt h3) (UInt8.lt_irrefl a)
        simp [hlt, this]
      · have : b < a := by
          rcases UInt8.lt_or_eq_of_le (UInt8.not_lt.1 hlt) with h3 | h3
          · exact h3
          · exact absurd h3.symm e
        simp [hlt, this]

/-- A key's text. -/
def ks : Lit → ByteArray
  | .string b => ⟨b.toArray⟩
  | _ => .empty
theorem ks_kl (s : ByteArray) : ks (kl s) = s := rfl
/-- All keys are texts. -/
def Txt (D : PDir) : Prop := ∀ p ∈ D, ∃ s, p.1 = kl s
/-- The document's row. -/
def nl (D : PDir) : NL := D.map fun p => (ks p.1, (p.2 : Int))

theorem same_kl (s t : ByteArray) : (kl s).sameKey (kl t) = decide (s = t) := by
  show (s.data.toList == t.data.toList) = _
  rw [← ByteArray.toList_eq, ← ByteArray.toList_eq]
  exact str_test s t
theorem before_kl (s t : ByteArray) : (kl s).before (kl t) = nless s t := by
  show bytesBefore s.data.toList t.data.toList = Op.bytesLess s.toList t.toList
  rw [before_less, ByteArray.toList_eq, ByteArray.toList_eq]

/-- A change, as the document writes it. -/
def chV : PC → Value
  | .mk s i => .agg #[.string .empty, .string s, .int .i64 (i : Int)]
  | .del s => .agg #[.string s, .string .empty, .int .i64 0]
  | .ren s t => .agg #[.string s, .string t, .int .i64 0]
/-- A change that fits. -/
def PC.fits (D : PDir) : PC → Prop
  | .mk s _ => s ≠ .empty
  | .del s => s ≠ .empty
  | .ren s t => s ≠ .empty ∧ t ≠ .empty ∧ ∃ i, plook (kl s) D = some i
end Go.Proofs.YthfcjfhaoabdeaaGreatDoor

/-
  What holds of every disk without memory.
-/
set_option linter.unusedVariables false
set_option linter.unusedSimpArgs false
namespace Go.Proofs.YthfcjfhaoabdeaaGreatDoor
open Go.RowKit Go.Maps

abbrev Rise (D : PDir) : Prop := D.Pairwise fun p q => p.1.before q.1 = true
structure Dgood (D : PDir) (n : Nat) : Prop where
  rise : Rise D
  len : D.length ≤ 64
  all : ∀ p ∈ D, (∃ s, p.1 = kl s ∧ isName s = true) ∧ p.2 < n
theorem Dgood.txt {D : PDir} {n : Nat} (h : Dgood D n) : Txt D := fun p hp => by
  obtain ⟨⟨s, e, _⟩, _⟩ := h.all p hp
  exact ⟨s, e⟩
theorem Dgood.more {D : PDir} {n m : Nat} (h : Dgood D n) (hm : n ≤ m) : Dgood D m := ⟨h.rise, h.len, fun p hp => ⟨(h.all p hp).1, Nat.lt_of_lt_of_le (h.all p hp).2 hm⟩⟩
theorem dgood_nil (n : Nat) : Dgood [] n := ⟨List.Pairwise.nil, Nat.zero_le _, fun p hp => by cases hp⟩

theorem kl_total {s t : ByteArray} (h : s ≠ t) (hb : (kl s).before (kl t) = false) : (kl t).before (kl s) = true := by
  rw [before_kl] at hb ⊢
  unfold nless at hb ⊢
  have := less_tri t.toList s.toList (fun e => h (by rw [ByteArray.toList_eq, ByteArray.toList_eq] at e; exact (ByteArray.ext (Array.toList_inj.1 e)).symm))
  rw [this, hb]
  rfl
theorem pins_rise {s : ByteArray} {i : Nat} : ∀ {D : PDir}, Rise D → Txt D → (∀ p ∈ D, p.1 ≠ kl s) → Rise (pins (kl s) i D)
  | [], _, _, _ => List.pairwise_singleton _ _
  | y :: r, h, ht, hn => by
    obtain ⟨h1, h2⟩ := List.pairwise_cons.1 h
    unfold pins
    by_cases e : (kl s).before y.1 = true
    · rw [if_pos e]
      refine List.pairwise_cons.2 ⟨fun p hp => ?_, h⟩
      rcases List.mem_cons.1 hp with rfl | hp
      · exact e
      · exact WideShapes.before_trans e (h1 p hp)
    · rw [if_neg e]
      refine List.pairwise_cons.2 ⟨fun p hp => ?_, pins_rise h2 (fun q hq => ht q (by simp [hq])) (fun q hq => hn q (by simp [hq]))⟩
      rcases mem_ins hp with rfl | hp
      · obtain ⟨t, e2⟩ := ht y (by simp)
        have hne : s ≠ t := fun e3 => hn y (by simp) (by rw [e2, e3])
        rw [e2] at e ⊢
        exact kl_total hne (by simpa using e)
      · exact h1 p hp
theorem pins_len (k : Lit) (i : Nat) : ∀ D : PDir, (pins k i D).length = D.length + 1
  | [] => rfl
  | y :: r => by
    unfold pins
    split
    · rfl
    · simp [pins_len k i r]
theorem pdel_le (k : Lit) (D : PDir) : (pdel k D).length ≤ D.length := List.length_filter_le _ _
theorem pdel_ne {s : ByteArray} {D : PDir} : ∀ p ∈ pdel (kl s) D, p.1 ≠ kl s := fun p hp e => by
  have := (List.mem_filter.1 hp).2
  rw [e, same_kl] at this
  simp at this
theorem Dgood.del {D : PDir} {n : Nat} (h : Dgood D n) (k : Lit) : Dgood (pdel k D) n :=
  ⟨h.rise.filter _, Nat.le_trans (pdel_le k D) h.len, fun p hp => h.all p (mem_del hp)⟩
theorem Dgood.put {D : PDir} {n : Nat} (h : Dgood D n) {s : ByteArray} (hs : isName s = true) {i : Nat} (hi : i < n) (hl : (pdel (kl s) D).length < 64) : Dgood (pput (kl s) i D) n := by
  have hd := h.del (kl s)
  refine ⟨pins_rise hd.rise hd.txt pdel_ne, ?_, fun p hp => ?_⟩
  · unfold pput
    rw [pins_len]
    omega
  · rcases mem_put hp with rfl | hp
    · exact ⟨⟨s, rfl, hs⟩, hi⟩
    · exact h.all p hp
theorem name_some {s : ByteArray} (h : isName s = true) : s ≠ .empty := fun e => by
  have := (isName_size h).1
  rw [e] at this
  exact absurd this (by decide)

def PD.dir (P : PD) (k : Nat) : PDir := pruns (P.log.take k) P.old
structure PD.inv (P : PD) : Prop where
  lo : 0 ≤ P.n
  hi : P.n ≤ 65536
  few : (P.log.length : Int) ≤ P.n
  filn : (P.fil.length : Int) ≤ 64 + P.n
  dir : ∀ k, k ≤ P.log.length → Dgood (P.dir k) P.fil.length
  fit : ∀ (k : Nat) (c : PC), P.log[k]? = some c → c.fits (P.dir k)
  fil : ∀ (i : Nat) (x : List Int × Nat), P.fil[i]? = some x → Byt x.1 ∧ x.2 ≤ x.1.length ∧ x.1.length ≤ 262144

section
variable {P : PD}
theorem PD.dir_now (P : PD) : P.dir P.log.length = P.now := by
  unfold PD.dir PD.now
  rw [List.take_length]
theorem PD.inv.now (h : P.inv) : Dgood P.now P.fil.length := by
  have := h.dir P.log.length (Nat.le_refl _)
  rwa [P.dir_now] at this
theorem inv_new : PD.new.inv := by
  refine ⟨by decide, by decide, by decide, by decide, fun k hk => ?_, (fun k c hc => by cases hc), (fun i x hx => by cases hx)⟩
  have : k = 0 := by simpa [PD.new] using hk
  subst this
  exact dgood_nil _
theorem PD.inv.change (h : P.inv) (hn : P.n < 65536) {c : PC} (hc : c.fits P.now) {pf : List (List Int × Nat)} (hl : P.fil.length ≤ pf.length) (hl2 : pf.length ≤ P.fil.length + 1) (hg : Dgood (c.run P.now) pf.length) (hf : ∀ (i : Nat) (x : List Int × Nat), pf[i]? = some x → Byt x.1 ∧ x.2 ≤ x.1.length ∧ x.1.length ≤ 262144) :
    PD.inv { P with log := P.log ++ [c], fil := pf, n := P.n + 1 } := by
  have h1 := h.lo
  have h2 := h.few
  have h3 := h.filn
  have hd : ∀ k, k ≤ P.log.length → PD.dir { P with log := P.log ++ [c], fil := pf, n := P.n + 1 } k = P.dir k := fun k hk => by
    show pruns ((P.log ++ [c]).take k) P.old = pruns (P.log.take k) P.old
    rw [List.take_append_of_le_length hk]
  refine ⟨by show 0 ≤ P.n + 1; omega, by show P.n + 1 ≤ 65536; omega, by show ((P.log ++ [c]).length : Int) ≤ P.n + 1; simp; omega, by show (pf.length : Int) ≤ 64 + (P.n + 1); omega, fun k hk => ?_, fun k c' hk => ?_, hf⟩
  · by_cases e : k ≤ P.log.length
    · rw [hd k e]
      exact (h.dir k e).more hl
    · have hk2 : k ≤ (P.log ++ [c]).length := hk
      have e2 : k = P.log.length + 1 := by simp at hk2; omega
      show Dgood (pruns ((P.log ++ [c]).take k) P.old) pf.length
      rw [List.take_of_length_le (by simp; omega), pruns_snoc]
      exact hg
  · have hk' : (P.log ++ [c])[k]? = some c' := hk
    by_cases e : k < P.log.length
    · rw [List.getElem?_append_left e] at hk'
      rw [hd k (by omega)]
      exact h.fit k c' hk'
    · have hlt := (List.getElem?_eq_some_iff.1 hk').1
      have e2 : k = P.log.length := by simp at hlt; omega
      subst e2
      rw [List.getElem?_append_right (Nat.le_refl _)] at hk'
      simp at hk'
      subst hk'
      rw [hd _ (Nat.le_refl _), P.dir_now]
      exact hc
theorem PD.inv.files (h : P.inv) (hn : P.n < 65536) {pf : List (List Int × Nat)} (hl : pf.length = P.fil.length) (hf : ∀ (i : Nat) (x : List Int × Nat), pf[i]? = some x → Byt x.1 ∧ x.2 ≤ x.1.length ∧ x.1.length ≤ 262144) : PD.inv { P with fil := pf, n := P.n + 1 } := by
  have h1 := h.lo
  have h2 := h.few
  have h3 := h.filn
  refine ⟨by show 0 ≤ P.n + 1; omega, by show P.n + 1 ≤ 65536; omega, by show (P.log.length : Int) ≤ P.n + 1; omega, by show (pf.length : Int) ≤ 64 + (P.n + 1); omega, fun k hk => ?_, h.fit, hf⟩
  show Dgood (P.dir k) pf.length
  rw [hl]
  exact h.dir k hk
theorem set_all {α : Type} {l : List α} {i : Nat} {y : α} {Q : α → Prop} (h : ∀ (j : Nat) (x : α), l[j]? = some x → Q x) (hy : Q y) : ∀ (j : Nat) (x : α), (l.set i y)[j]? = some x → Q x := fun j x hx => by
  rw [List.getElem?_set] at hx
  split at hx
  · split at hx
    · cases hx; exact hy
    · cases hx
  · exact h j x hx
theorem PD.inv.at (h : P.inv) {s : ByteArray} {i : Nat} (hi : plook (kl s) P.now = some i) : P.fil[i]? = some (P.at i) ∧ Byt (P.at i).1 ∧ (P.at i).2 ≤ (P.at i).1.length ∧ (P.at i).1.length ≤ 262144 := by
  obtain ⟨p, hp, rfl, _⟩ := look_mem hi
  have hl := (h.now.all p hp).2
  have e := List.getElem?_eq_getElem hl
  have e2 : P.at p.2 = P.fil[p.2] := at_eq e
  rw [e2]
  exact ⟨e, h.fil _ _ e⟩
theorem inv_app (h : P.inv) (s : ByteArray) {xs : List Int} (hx : Byt xs) : (P.app s xs).2.inv := by
  unfold PD.app
  cases hn : isName s with
  | false => exact h
  | true =>
    rw [if_neg (by decide)]
    cases e : plook (kl s) P.now with
    | none =>
      show PD.inv (if _ then (_, _) else (_, _)).2
      split
      · exact h
      · rename_i hc
        refine h.change (by omega) (c := .mk s P.fil.length) (name_some hn) (by simp) (by simp) ((h.now.more (by simp)).put hn (by simp) (by have := pdel_le (kl s) P.now; omega)) fun i x hi => ?_
        by_cases hl : i < P.fil.length
        · rw [List.getElem?_append_left hl] at hi
          exact h.fil i x hi
        · rw [List.getElem?_append_right (by omega)] at hi
          have hlt := (List.getElem?_eq_some_iff.1 hi).1
          have e2 : i - P.fil.length = 0 := by simp at hlt; omega
          rw [e2] at hi
          simp at hi
          subst hi
          exact ⟨hx, Nat.zero_le _, by show xs.length ≤ 262144; omega⟩
    | some i =>
      show PD.inv (if _ then (_, _) else (_, _)).2
      split
      · exact h
      · rename_i hc
        obtain ⟨h1, h2, h3, h4⟩ := h.at e
        refine h.files (by omega) (by simp) (set_all (Q := fun (x : List Int × Nat) => Byt x.1 ∧ x.2 ≤ x.1.length ∧ x.1.length ≤ 262144) h.fil ⟨h2.append hx, ?_, ?_⟩)
        · show (P.at i).2 ≤ ((P.at i).1 ++ xs).length
          rw [List.length_append]; omega
        · show ((P.at i).1 ++ xs).length ≤ 262144
          rw [List.length_append]; omega
theorem pcode_zero {n : Bool} {q : Option Nat} {ops : Int} (h : pcode n q ops = 0) : n = true ∧ (∃ i, q = some i) ∧ ops < 65536 := by
  unfold pcode at h
  cases n with
  | false => simp at h
  | true =>
    cases q with
    | none => simp at h
    | some i =>
      refine ⟨rfl, ⟨i, rfl⟩, ?_⟩
      by_cases e : 65536 ≤ ops
      · simp [e] at h
      · omega
theorem inv_sync (h : P.inv) (s : ByteArray) : (P.sync s).2.inv := by
  unfold PD.sync
  split
  · rename_i hz
    obtain ⟨hn, ⟨i, hi⟩, hop⟩ := pcode_zero hz
    rw [hi]
    obtain ⟨h1, h2, h3, h4⟩ := h.at hi
    exact h.files hop (by simp) (set_all (Q := fun (x : List Int × Nat) => Byt x.1 ∧ x.2 ≤ x.1.length ∧ x.1.length ≤ 262144) h.fil ⟨h2, Nat.le_refl _, h4⟩)
  · exact h
theorem inv_syncDir (h : P.inv) : P.syncDir.2.inv := by
  unfold PD.syncDir
  split
  · exact h
  · rename_i hc
    have h1 := h.lo
    have h3 := h.filn
    refine ⟨by show 0 ≤ P.n + 1; omega, by show P.n + 1 ≤ 65536; omega, by show ((0 : Nat) : Int) ≤ P.n + 1; omega, by show (P.fil.length : Int) ≤ 64 + (P.n + 1); omega, fun k hk => ?_, (fun k c hk => by cases hk), h.fil⟩
    have : k = 0 := by simpa using hk
    subst this
    exact h.now
end
end Go.Proofs.YthfcjfhaoabdeaaGreatDoor

/-
  The document's own disk in memory: New, CutAt, may.
-/
set_option linter.unusedVariables false
set_option linter.unusedSimpArgs false
namespace Go.Proofs.YthfcjfhaoabdeaaGreatDoor
open Go.RowKit Go.Maps

/-- Whose a block is. -/
inductive Ro where
  | out | dsk | fs | log | nam
  | fl (i : Nat)
  | byt (i : Nat)
section
variable {w w' : World} {r : Nat} {vF vO vL vN : Value} {n cut : Int} {off : Bool}
/-- Is the power gone, once it has been asked? -/
def offed (n cut : Int) (off : Bool) : Bool := off || (decide (0 ≤ cut) && decide (cut ≤ n))
end
end Go.Proofs.YthfcjfhaoabdeaaGreatDoor

/-
  A crash: the whole of the new disk.
-/
set_option linter.unusedVariables false
set_option linter.unusedSimpArgs false
namespace Go.Proofs.YthfcjfhaoabdeaaGreatDoor.Land
open Go.RowKit Go.Maps

/-! ### Rows that are numbered anew -/
theorem look_at : ∀ {D : PDir} {i : Nat} {p : Lit × Nat}, Rise D → Txt D → D[i]? = some p → plook p.1 D = some p.2
  | [], _, _, _, _, h => by cases h
  | y :: r, 0, p, h, ht, hi => by
    cases hi
    obtain ⟨s, e⟩ := ht y (by simp)
    have hs : y.1.sameKey y.1 = true := by rw [e, same_kl]; simp
    simp [plook, hs]
  | y :: r, i + 1, p, h, ht, hi => by
    obtain ⟨h1, h2⟩ := List.pairwise_cons.1 h
    have hi' : r[i]? = some p := by simpa using hi
    have hb := h1 p (List.mem_of_getElem? hi')
    have ih := look_at (D := r) h2 (fun q hq => ht q (by simp [hq])) hi'
    have hs : y.1.sameKey p.1 = false := by
      obtain ⟨s, e⟩ := ht y (by simp)
      obtain ⟨t, e2⟩ := ht p (by simp [List.mem_of_getElem? hi'])
      rw [e, e2, same_kl]
      have : s ≠ t := fun e3 => by
        rw [e, e2, e3, WideShapes.before_irrefl] at hb
        cases hb
      simpa using this
    unfold plook at ih ⊢
    rw [List.find?_cons, hs]
    exact ih
section
variable {w w' : World} {K : Nat → Prop} {d : Nat} {P : PD} {cutAt : Int} {cuts gone : Bool}
end
end Go.Proofs.YthfcjfhaoabdeaaGreatDoor.Land

/-
  Read of every kind, Poke.
-/
set_option linter.unusedVariables false
set_option linter.unusedSimpArgs false
namespace Go.Proofs.YthfcjfhaoabdeaaGreatDoor.Land
open Go.RowKit Go.Maps

section
variable {w w' : World} {K : Nat → Prop} {d : Nat} {P : PD} {cutAt : Int} {cuts gone : Bool} {syn since : Value} {mb : Option Nat} {ops : Int} {D : DataW Value}
theorem read_bad (h : Dk w d (.map mb) syn since ops cutAt cuts false) (s : ByteArray) (hs : s.size ≤ maxLen) (hn : isName s = false) :
    Calls Tryz.prog 67 #[.pointer (some ⟨d, 0, none⟩), .string s] w fun e w' => e = .returned (.tuple #[.slice none 0 0, .int .i64 20]) ∧ w' = w := by
  obtain ⟨c0, c1, c2, c3, c4, c5, c6⟩ := h.cells
  have hfind := find_bad (w := w) (p := .pointer (some ⟨d, 0, none⟩)) s hs hn
  clear h
  go_enter Tryz.func67, Tryz.ntmps67
  go_wp2_with fail
  refine hfind.mono ?_
  rintro e w' ⟨rfl, rfl⟩
  go_wp2
  go_ret2
  exact ⟨rfl, rfl⟩
theorem read_none (h : Dk w d (.map mb) syn since ops cutAt cuts false) (hd : Dir w mb D) (s : ByteArray) (hn : isName s = true) (hl : Leads D s none) :
    Calls Tryz.prog 67 #[.pointer (some ⟨d, 0, none⟩), .string s] w fun e w' => e = .returned (.tuple #[.slice none 0 0, .int .i64 21]) ∧ w' = w := by
  obtain ⟨c0, c1, c2, c3, c4, c5, c6⟩ := h.cells
  have hfind := find_none h hd s hn hl
  clear h
  go_enter Tryz.func67, Tryz.ntmps67
  go_wp2_with fail
  refine hfind.mono ?_
  rintro e w' ⟨rfl, rfl⟩
  go_wp2
  go_ret2
  exact ⟨rfl, rfl⟩

end
end Go.Proofs.YthfcjfhaoabdeaaGreatDoor.Land

/-
  The names of a disk; what is read of it; a byte that is turned.
-/
set_option linter.unusedVariables false
set_option linter.unusedSimpArgs false
namespace Go.Proofs.YthfcjfhaoabdeaaGreatDoor.Land
open Go.RowKit Go.Maps Go.Sort

theorem before_lt : ∀ x y : List UInt8, bytesBefore x y = true → x < y
  | [], [], h => by cases h
  | [], _ :: _, _ => List.nil_lt_cons _ _
  | _ :: _, [], h => by cases h
  | a :: x, b :: y, h => by
    have h' : (decide (a < b) || (a == b && bytesBefore x y)) = true := h
    rw [List.cons_lt_cons_iff]
    simp at h'
    rcases h' with h1 | ⟨h1, h2⟩
    · exact .inl h1
    · exact .inr ⟨h1, before_lt x y h2⟩
def dnames (D : PDir) : List ByteArray := D.map fun p => ks p.1
theorem nm_mp {D : PDir} (ρ : Nat → Nat) (h : Rise D) (ht : Txt D) : nm (mp ρ D) = dnames D := by
  have e1 : strKeys (mp ρ D) = D.map fun p => (ks p.1).data.toList := by
    unfold mp strKeys
    simp only [List.map_map]
    apply List.map_congr_left
    intro p hp
    obtain ⟨s, e⟩ := ht p hp
    show strOf p.1 = (ks p.1).data.toList
    rw [e]
    rfl
  have e2 : (D.map fun p => (ks p.1).data.toList).Pairwise (fun x y => decide (x ≤ y) = true) := by
    rw [List.pairwise_map]
    refine List.Pairwise.imp_of_mem ?_ h
    intro p q hp hq hb
    obtain ⟨s, e⟩ := ht p hp
    obtain ⟨t, e'⟩ := ht q hq
    rw [e, e'] at hb ⊢
    have := before_lt _ _ (show bytesBefore s.data.toList t.data.toList = true from hb)
    rw [ks_kl, ks_kl]
    exact decide_eq_true (List.le_of_lt this)
  unfold nm dnames
  rw [e1, List.mergeSort_of_pairwise e2, List.map_map]
  apply List.map_congr_left
  intro p hp
  show ByteArray.mk (ks p.1).data.toList.toArray = ks p.1
  simp

section
variable {w w' : World} {K : Nat → Prop} {d : Nat} {P : PD} {cutAt : Int} {cuts gone : Bool}
theorem dr_names (h : DR w K d P cutAt cuts gone) (hP : P.inv) :
    Calls Tryz.prog 49 #[.pointer (some ⟨d, 0, none⟩)] w fun e w' => ∃ ao len cap, e = .returned (.slice ao len cap) ∧ St w' ao len cap (dnames P.now) ∧ Below w.heap.size w w' := by
  obtain ⟨S, ρ, ⟨nb, sb, sv, cs, vf, M⟩, ok, hl, _⟩ := h
  have hg := hP.now
  have hnow := hl.now ok
  rcases M.now with ⟨rfl, e⟩ | ⟨b, n, rfl, ho⟩
  · have e0 : P.now = [] := by
      rw [e] at hnow
      have h1 : (DataW.map [] : DataW Value) = mp ρ P.now := hnow
      have h2 := congrArg Maps.size h1
      rw [mp_size] at h2
      exact List.eq_nil_of_length_eq_zero h2.symm
    refine (names_nil M.dk).mono ?_
    rintro e' w' ⟨rfl, hb⟩
    rw [e0]
    exact ⟨none, 0, 0, rfl, ⟨rfl, Nat.le_refl _, Nat.zero_le _, (fun s hs => by cases hs), fun h => absurd h (by omega)⟩, hb⟩
  · have hid := own_dn ho
    rw [hid] at hnow
    have hsz := ok.szn
    refine (names_any M.dk ho (by omega)).mono ?_
    rintro e w' ⟨v, ss, rfl, hp, hrow, hnil, hb⟩
    have hm : ss.mergeSort (fun x y => decide (x ≤ y)) = (strKeys S.now).mergeSort (fun x y => decide (x ≤ y)) := mergeSort_of_perm hp
    have hnm : nm S.now = dnames P.now := by rw [hnow, nm_mp ρ hg.rise hg.txt]
    have hmem : ∀ s ∈ nm S.now, s.size ≤ maxLen := fun s hs => by
      rw [hnm] at hs
      obtain ⟨p, hp, rfl⟩ := List.mem_map.1 hs
      obtain ⟨⟨t, et, hn⟩, _⟩ := hg.all p hp
      rw [et, ks_kl]
      have := isName_size hn
      unfold maxLen
      omega
    have hlen : (nm S.now).length = ss.length := by
      unfold nm
      rw [List.length_map, ← hm, List.length_mergeSort]
    rw [← hnm]
    rcases hrow.2 with ⟨rfl, h0⟩ | ⟨g, cap, cur, rfl, hg, hh, hn, hm2, hcs, hct⟩
    · exact ⟨none, 0, 0, rfl, ⟨by omega, Nat.le_refl _, Nat.zero_le _, hmem, fun h => absurd h (by omega)⟩, hb⟩
    · refine ⟨some ⟨g, 0, none⟩, ss.length, cap, rfl, ⟨hlen, hn, hm2, hmem, fun _ => ⟨g, 0, rfl, (Array.getElem?_eq_some_iff.1 hh).1, fun i hi => ?_⟩⟩, hb⟩
      rw [Nat.zero_add, Go.Joins.cell_of_block hh, ← Array.getElem?_toList]
      have e1 : (cur.toList.take (ss.length * 1))[i]? = ((ss.mergeSort (fun x y => decide (x ≤ y))).map encStr)[i]? := by rw [hct]
      rw [List.getElem?_take_of_lt (by omega), hm] at e1
      rw [e1]
      have hi2 : i < ((strKeys S.now).mergeSort (fun x y => decide (x ≤ y))).length := by rw [← hm, List.length_mergeSort]; exact hi
      simp only [nm, List.getD, List.getElem?_map, List.getElem?_eq_getElem hi2, Option.map_some, Option.getD_some]
end

/-! ### What is read, what is turned -/
def pread (P : PD) (s : ByteArray) : Int × List Int := if isName s = false then (20, []) else match plook (kl s) P.now with | none => (21, []) | some i => (0, (P.at i).1)
section
variable {w w' : World} {K : Nat → Prop} {d : Nat} {P : PD} {cutAt : Int} {cuts gone : Bool}
theorem own_nil (w : World) (B : Nat) : Own w B (.slice none 0 0) [] := World.ownsRow_nil _ _ _ _
theorem look_lead {S : AD} {ρ : Nat → Nat} (hl : Link S P ρ) (ok : S.ok) (s : ByteArray) : (plook (kl s) P.now = none ∧ Leads S.now s none) ∨ ∃ i, plook (kl s) P.now = some i ∧ Leads S.now s (some ⟨ρ i, 0, none⟩) ∧ S.fil (ρ i) = some (P.at i) ∧ i < P.fil.length := by
  cases e : plook (kl s) P.now with
  | none =>
    refine .inl ⟨rfl, ?_⟩
    rcases ok.lead s with ⟨_, h2⟩ | ⟨f, x, _, _, h3, _⟩
    · exact h2
    · exact absurd ((hl.lead ok h3).1 e) (by simp)
  | some i =>
    obtain ⟨h1, x, h2, h3⟩ := hl.look ok s e
    refine .inr ⟨i, rfl, ?_, by rw [at_eq h2]; exact h3, (List.getElem?_eq_some_iff.1 h2).1⟩
    have := dn_at ok.isn (kl s) (.held (.pointer none))
    exact this.symm.trans (h1 _)
theorem dr_read (h : DR w K d P cutAt cuts gone) (hP : P.inv) (s : ByteArray) (hs : s.size ≤ maxLen) :
    Calls Tryz.prog 67 #[.pointer (some ⟨d, 0, none⟩), .string s] w fun e w' => ∃ v, e = .returned (.tuple #[v, .int .i64 (if gone then 24 else (pread P s).1)]) ∧ Own w' w.heap.size v (if gone then [] else (pread P s).2) ∧ Below w.heap.size w w' := by
  obtain ⟨S, ρ, ⟨nb, sb, sv, cs, vf, M⟩, ok, hl, rfl, rfl, hgo⟩ := h
  have hdk := M.dk
  cases gone with
  | true =>
    rw [hgo] at hdk
    refine (read_off hdk s).mono ?_
    rintro e w' ⟨rfl, rfl⟩
    exact ⟨_, rfl, own_nil _ _, Below.refl _ _⟩
  | false =>
    rw [hgo] at hdk
    show Calls _ _ _ _ fun e w' => ∃ v, e = .returned (.tuple #[v, .int .i64 (pread P s).1]) ∧ Own w' w.heap.size v (pread P s).2 ∧ _
    unfold pread
    cases hn : isName s with
    | false =>
      rw [if_pos rfl]
      refine (read_bad hdk s hs hn).mono ?_
      rintro e w' ⟨rfl, rfl⟩
      exact ⟨_, rfl, own_nil _ _, Below.refl _ _⟩
    | true =>
      rw [if_neg (by decide)]
      rcases look_lead hl ok s with ⟨e, hL⟩ | ⟨i, e, hL, hf, hi⟩
      · rw [e]
        refine (read_none hdk M.now s hn hL).mono ?_
        rintro e w' ⟨rfl, rfl⟩
        exact ⟨_, rfl, own_nil _ _, Below.refl _ _⟩
      · rw [e]
        obtain ⟨g1, g2, g3, g4, g5, g6⟩ := M.fils.1 _ _ hf
        obtain ⟨ao, l, cap, hv, hsl, _⟩ := g2.sl' g3
        rw [hv] at g1
        exact read_ok hdk M.now s hn (ρ i) _ hL ao l cap _ g1 hsl (by have := hsl.1; omega)
end
end Go.Proofs.YthfcjfhaoabdeaaGreatDoor.Land
