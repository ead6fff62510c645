/-
  The store without memory: what is there, what each thing's cells have, and which cells these are.
-/
import Derived.Test.YtfhcphgjaobnoaaDoorC7
set_option linter.unusedVariables false
set_option linter.unusedSimpArgs false
namespace Go.Proofs.YtfhcphgjaobnoaaDoor
open Go.RowKit Go.Maps

/-- Whose a field is: a node's (0: head, 1: lock), a version's (2: begin, 3: end, 4: next), a transaction's (5: state). -/
def cls (k : Nat) : Nat := if k < 2 then 0 else if k < 5 then 1 else 2
def up2 {α : Type} (f : Nat → Nat → α) (k n : Nat) (x : α) : Nat → Nat → α := fun k' n' => if k' = k ∧ n' = n then x else f k' n'
def up1 {α : Type} (f : Nat → α) (k : Nat) (x : α) : Nat → α := fun k' => if k' = k then x else f k'
theorem up2_same {α : Type} (f : Nat → Nat → α) (k n : Nat) (x : α) : up2 f k n x k n = x := by simp [up2]
theorem up2_other {α : Type} (f : Nat → Nat → α) {k n k' n' : Nat} (x : α) (h : ¬ (k' = k ∧ n' = n)) : up2 f k n x k' n' = f k' n' := by unfold up2; rw [if_neg h]
theorem up1_same {α : Type} (f : Nat → α) (k : Nat) (x : α) : up1 f k x k = x := by simp [up1]
theorem up1_other {α : Type} (f : Nat → α) {k k' : Nat} (x : α) (h : k' ≠ k) : up1 f k x k' = f k' := by simp [up1, h]

/-- A store: the last number of each kind that was given, what is there, what a field has, a version's value. -/
structure Stt where
  la : Nat → Nat
  lv : Nat → Nat → Bool
  va : Nat → Nat → Int
  tx : Nat → ByteArray
def Stt.zero : Stt := ⟨fun _ => 0, fun _ _ => false, fun _ _ => 0, fun _ => .empty⟩
def Stt.put (A : Stt) (k n : Nat) (x : Int) : Stt := { A with va := up2 A.va k n x }
def Stt.off (A : Stt) (c n : Nat) : Stt := { A with lv := up2 A.lv c n false }
def Stt.node (A : Stt) : Stt := { A with la := up1 A.la 0 (A.la 0 + 1), lv := up2 A.lv 0 (A.la 0 + 1) true, va := up2 (up2 A.va 0 (A.la 0 + 1) 0) 1 (A.la 0 + 1) 0 }
def Stt.ver (A : Stt) (t : ByteArray) (b x : Int) : Stt :=
  { la := up1 A.la 1 (A.la 1 + 1), lv := up2 A.lv 1 (A.la 1 + 1) true, va := up2 (up2 (up2 A.va 2 (A.la 1 + 1) b) 3 (A.la 1 + 1) 1099511627776) 4 (A.la 1 + 1) x, tx := up1 A.tx (A.la 1 + 1) t }
def Stt.txn (A : Stt) : Stt := { A with la := up1 A.la 2 (A.la 2 + 1), lv := up2 A.lv 2 (A.la 2 + 1) true, va := up2 A.va 5 (A.la 2 + 1) 0 }

structure Stt.ok (A : Stt) : Prop where
  n1 : ∀ c n, A.lv c n = true → 1 ≤ n ∧ n ≤ A.la c
  nd : ∀ n, 1 ≤ n → n ≤ A.la 0 → A.lv 0 n = true
  bd : ∀ k n, k < 6 → A.lv (cls k) n = true → 0 ≤ A.va k n ∧ A.va k n ≤ 18446744073709551615
  hd : ∀ n, A.lv 0 n = true → A.va 0 n ≤ A.la 1
  nx : ∀ n, A.lv 1 n = true → A.va 4 n < n
  ts : ∀ n, (A.tx n).size ≤ 64

theorem Stt.zero_ok : Stt.zero.ok := ⟨fun _ _ h => (nomatch h), fun n h1 h2 => by simp [Stt.zero] at h2; omega, fun _ _ _ h => (nomatch h), fun _ h => (nomatch h), fun _ h => (nomatch h), fun _ => by simp [Stt.zero]⟩

/-- Which cell is whose. -/
structure Plc (L : Nat → Nat → Bool) (va : Nat → Nat → Int) (T : List Bool) (N : List Int) (own : Nat → Option (Nat × Nat)) (pl : Nat → Nat → Nat) : Prop where
  to : ∀ k n, L k n = true → own (pl k n) = some (k, n)
  fro : ∀ c k n, own c = some (k, n) → L k n = true ∧ pl k n = c
  tn : ∀ c, T.getD c false = (own c).isSome
  vl : ∀ k n, L k n = true → N.getD (pl k n) 0 = va k n

section
variable {L L' : Nat → Nat → Bool} {va va' : Nat → Nat → Int} {T : List Bool} {N N' : List Int} {own : Nat → Option (Nat × Nat)} {pl : Nat → Nat → Nat}
theorem getD_lt {T : List Bool} {c : Nat} (h : T.getD c false = true) : c < T.length := by
  by_cases hc : c < T.length
  · exact hc
  · simp [List.getD, List.getElem?_eq_none (by omega : T.length ≤ c)] at h
theorem Plc.on (h : Plc L va T N own pl) {k n : Nat} (hl : L k n = true) : T.getD (pl k n) false = true := by rw [h.tn, h.to k n hl]; rfl
theorem Plc.lt (h : Plc L va T N own pl) {k n : Nat} (hl : L k n = true) : pl k n < T.length := getD_lt (h.on hl)
theorem Plc.tak (h : Plc L va T N own pl) {k n : Nat} (hl : L k n = true) : tk T (pl k n : Int) = true := by
  unfold tk
  rw [Int.toNat_natCast, h.on hl]
  simp
theorem Plc.inj (h : Plc L va T N own pl) {k n k' n' : Nat} (h1 : L k n = true) (h2 : L k' n' = true) (e : pl k n = pl k' n') : k = k' ∧ n = n' := by
  have a := h.to k n h1
  rw [e, h.to k' n' h2] at a
  simp at a
  exact ⟨a.1.symm, a.2.symm⟩
theorem Plc.congr (h : Plc L va T N own pl) (e1 : ∀ k n, L' k n = L k n) (e2 : ∀ k n, L k n = true → va' k n = va k n) : Plc L' va' T N own pl :=
  ⟨fun k n hl => h.to k n ((e1 k n).symm.trans hl), fun c k n ho => by obtain ⟨a, b⟩ := h.fro c k n ho; exact ⟨(e1 k n).trans a, b⟩, h.tn, fun k n hl => by have := (e1 k n).symm.trans hl; rw [h.vl k n this, e2 k n this]⟩
theorem Plc.cells (h : Plc L va T N own pl) (e : ∀ c, T.getD c false = true → N'.getD c 0 = N.getD c 0) : Plc L va T N' own pl :=
  ⟨h.to, h.fro, h.tn, fun k n hl => by rw [e _ (h.on hl)]; exact h.vl k n hl⟩
theorem Plc.put (h : Plc L va T N own pl) {k n : Nat} (hl : L k n = true) (x : Int) (hN : T.length ≤ N.length) : Plc L (up2 va k n x) T (N.set (pl k n) x) own pl := by
  refine ⟨h.to, h.fro, h.tn, fun k' n' hl' => ?_⟩
  rw [getD_set]
  by_cases e : k' = k ∧ n' = n
  · obtain ⟨rfl, rfl⟩ := e
    rw [up2_same, if_pos ⟨rfl, by have := h.lt hl; omega⟩]
  · rw [up2_other _ _ e, if_neg (fun q => e (h.inj hl' hl q.1)), h.vl k' n' hl']
theorem Plc.add (h : Plc L va T N own pl) {k n c : Nat} {x : Int} (hl : L k n = false) (hc : T.getD c true = false) (hx : N.getD c 0 = x) :
    Plc (up2 L k n true) (up2 va k n x) (T.set c true) N (up1 own c (some (k, n))) (up2 pl k n c) := by
  have hlt : c < T.length := by
    by_cases q : c < T.length
    · exact q
    · simp [List.getD, List.getElem?_eq_none (by omega : T.length ≤ c)] at hc
  have hno : own c = none := by
    have := h.tn c
    have e : T.getD c false = false := by
      simp only [List.getD, List.getElem?_eq_getElem hlt] at hc ⊢
      exact hc
    rw [e] at this
    cases hq : own c with
    | none => rfl
    | some _ => rw [hq] at this; cases this
  refine ⟨fun k' n' hl' => ?_, fun c' k' n' ho => ?_, fun c' => ?_, fun k' n' hl' => ?_⟩
  · by_cases e : k' = k ∧ n' = n
    · obtain ⟨rfl, rfl⟩ := e
      rw [up2_same, up1_same]
    · rw [up2_other _ _ e] at hl' ⊢
      have h1 := h.to k' n' hl'
      rw [up1_other _ _ (fun q => by rw [q, hno] at h1; cases h1), h1]
  · by_cases e : c' = c
    · subst e
      rw [up1_same] at ho
      simp at ho
      obtain ⟨rfl, rfl⟩ := ho
      exact ⟨up2_same _ _ _ _, up2_same _ _ _ _⟩
    · rw [up1_other _ _ e] at ho
      obtain ⟨a, b⟩ := h.fro c' k' n' ho
      have : ¬ (k' = k ∧ n' = n) := fun q => by rw [q.1, q.2, hl] at a; cases a
      rw [up2_other _ _ this, up2_other _ _ this]
      exact ⟨a, b⟩
  · rw [getD_set]
    by_cases e : c' = c
    · subst e
      rw [if_pos ⟨rfl, hlt⟩, up1_same]
      rfl
    · rw [if_neg (fun q => e q.1), up1_other _ _ e]
      exact h.tn c'
  · by_cases e : k' = k ∧ n' = n
    · obtain ⟨rfl, rfl⟩ := e
      rw [up2_same, up2_same, hx]
    · rw [up2_other _ _ e] at hl'
      rw [up2_other _ _ e, up2_other _ _ e]
      exact h.vl k' n' hl'
theorem Plc.del (h : Plc L va T N own pl) {k n : Nat} (hl : L k n = true) : Plc (up2 L k n false) va (T.set (pl k n) false) N (up1 own (pl k n) none) pl := by
  have hlt := h.lt hl
  refine ⟨fun k' n' hl' => ?_, fun c' k' n' ho => ?_, fun c' => ?_, fun k' n' hl' => ?_⟩
  · by_cases e : k' = k ∧ n' = n
    · rw [e.1, e.2, up2_same] at hl'; cases hl'
    · rw [up2_other _ _ e] at hl'
      rw [up1_other _ _ (fun q => e (h.inj hl' hl q))]
      exact h.to k' n' hl'
  · by_cases e : c' = pl k n
    · rw [e, up1_same] at ho; cases ho
    · rw [up1_other _ _ e] at ho
      obtain ⟨a, b⟩ := h.fro c' k' n' ho
      have : ¬ (k' = k ∧ n' = n) := fun q => by rw [q.1, q.2] at b; exact e b.symm
      rw [up2_other _ _ this]
      exact ⟨a, b⟩
  · rw [getD_set]
    by_cases e : c' = pl k n
    · rw [if_pos ⟨e, hlt⟩, e, up1_same]; rfl
    · rw [if_neg (fun q => e q.1), up1_other _ _ e]
      exact h.tn c'
  · by_cases e : k' = k ∧ n' = n
    · rw [e.1, e.2, up2_same] at hl'; cases hl'
    · rw [up2_other _ _ e] at hl'
      exact h.vl k' n' hl'
end
end Go.Proofs.YtfhcphgjaobnoaaDoor
