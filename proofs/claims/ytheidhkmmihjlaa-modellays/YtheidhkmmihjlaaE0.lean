/-
  Records as plain data, their bytes, which are right, and how bytes are read: no program in sight.
-/
import Derived.Test.YtheidhkmmihjlaaKit2
import Derived.Test.YtheidhkmmihjlaaText
set_option linter.unusedVariables false
set_option linter.unusedSimpArgs false
namespace Go.Proofs.Ytheidhkmmihjlaa
open Go.RowKit

/-! ### Texts that are below others -/
def slt (a b : ByteArray) : Bool := Op.bytesLess a.toList b.toList

theorem less_flip : ∀ x y : List UInt8, (Op.bytesLess x y || (x == y)) = !Op.bytesLess y x
  | [], [] => rfl
  | [], b :: y => by simp [Op.bytesLess]
  | a :: x, [] => by simp [Op.bytesLess]
  | a :: x, b :: y => by
    have ih := less_flip x y
    by_cases h1 : a < b
    · have h2 : ¬ b < a := UInt8.lt_asymm h1
      have h3 : ¬ b = a := fun e => by subst e; exact UInt8.lt_irrefl _ h1
      have h4 : (b == a) = false := by simpa using h3
      simp [Op.bytesLess, h1, h2, h4]
    · by_cases h2 : b < a
      · have h3 : ¬ a = b := fun e => by subst e; exact UInt8.lt_irrefl _ h2
        have h4 : (a == b) = false := by simpa using h3
        simp [Op.bytesLess, h1, h2, h4, h3]
      · have h3 : a = b := UInt8.le_antisymm (UInt8.not_lt.1 h2) (UInt8.not_lt.1 h1)
        subst h3
        simpa [Op.bytesLess, h1] using ih
theorem slt_flip (a b : ByteArray) : (slt a b || (a.toList == b.toList)) = !slt b a := less_flip _ _
theorem slt_empty (b : ByteArray) : slt ⟨#[]⟩ b = decide (1 ≤ b.size) := by
  unfold slt
  rw [ByteArray.toList_eq, ByteArray.toList_eq]
  have e : b.size = b.data.toList.length := by rw [Array.length_toList]; rfl
  rw [e]
  cases b.data.toList with
  | nil => rfl
  | cons x r => simp [Op.bytesLess]
theorem empty_test (b : ByteArray) : (b.toList == (⟨#[]⟩ : ByteArray).toList) = decide (b.size = 0) := by
  rw [ByteArray.toList_eq, ByteArray.toList_eq]
  have e : b.size = b.data.toList.length := by rw [Array.length_toList]; rfl
  rw [e]
  cases b.data.toList with
  | nil => rfl
  | cons x r => simp
theorem size_zero {b : ByteArray} (h : b.size = 0) : b = ⟨#[]⟩ := by
  apply ByteArray.ext
  apply Array.toList_inj.1
  have e : b.size = b.data.toList.length := by rw [Array.length_toList]; rfl
  rw [e] at h
  exact List.eq_nil_of_length_eq_zero h

/-! ### The records -/
structure Wr where
  key : ByteArray
  val : ByteArray
  gone : Bool
structure Pr where
  num : Int
  frm : Int
  til : Int
structure Cm where
  time : Int
  ws : List Wr
structure Rw where
  key : ByteArray
  val : ByteArray
  time : Int
structure Gn where
  key : ByteArray
  time : Int
structure Mf where
  time : Int
  log : Int
  ps : List Pr

def isK (s : ByteArray) : Bool := decide (1 ≤ s.size) && decide (s.size ≤ 16)
def isV (s : ByteArray) : Bool := decide (s.size ≤ 64)
def isT (t : Int) : Bool := decide (0 ≤ t) && decide (t ≤ 1099511627775)
def isN (n : Int) : Bool := decide (1 ≤ n) && decide (n ≤ 2147483647)
def okW (w : Wr) : Bool := isK w.key && isV w.val && (!w.gone || decide (w.val.size = 0))
/-- Writes by rising keys, the first above a text. -/
def upW : ByteArray → List Wr → Bool
  | _, [] => true
  | a, w :: r => okW w && slt a w.key && upW w.key r
def rightC (c : Cm) : Bool := isT c.time && decide (c.ws.length ≤ 64) && upW ⟨#[]⟩ c.ws
def rightR (r : Rw) : Bool := isK r.key && isV r.val && isT r.time
def rightG (g : Gn) : Bool := isK g.key && isT g.time
/-- Pairs one behind the other, up to a time. -/
def upP (time : Int) : List Int → Int → List Pr → Bool
  | _, e, [] => decide (e = time)
  | seen, e, p :: r => isN p.num && !(seen.contains p.num) && decide (p.frm = e) && decide (p.frm < p.til) && upP time (seen ++ [p.num]) p.til r
def rightM (m : Mf) : Bool := isT m.time && isN m.log && decide (m.ps.length ≤ 16) && upP m.time [] 0 m.ps

/-! ### Their bytes -/
def tx (s : ByteArray) : List Int := enc s.size ++ sb s
def wb (w : Wr) : List Int := if w.gone then 1 :: tx w.key else 0 :: (tx w.key ++ tx w.val)
def pb (p : Pr) : List Int := enc p.num ++ (enc p.frm ++ enc p.til)
def cmb (c : Cm) : List Int := 67 :: (enc c.time ++ (enc c.ws.length ++ c.ws.flatMap wb))
def rb (r : Rw) : List Int := 82 :: (tx r.key ++ (tx r.val ++ enc r.time))
def gb (g : Gn) : List Int := 71 :: (tx g.key ++ enc g.time)
def mb (m : Mf) : List Int := 77 :: (enc m.time ++ (enc m.log ++ (enc m.ps.length ++ m.ps.flatMap pb)))

theorem tx_byt (s : ByteArray) : Byt (tx s) := (enc_byt _ (by omega)).append (sb_byt s)
theorem tx_len (s : ByteArray) : (tx s).length ≤ 10 + s.size := by
  have := enc_len s.size
  simp only [tx, List.length_append, sb_length]
  omega
theorem wb_byt (w : Wr) : Byt (wb w) := by
  unfold wb
  split
  · exact Byt.cons (by omega) (tx_byt _)
  · exact Byt.cons (by omega) ((tx_byt _).append (tx_byt _))
theorem wb_len (w : Wr) (h : okW w = true) : (wb w).length ≤ 101 := by
  simp only [okW, isK, isV, Bool.and_eq_true, decide_eq_true_eq] at h
  have h1 := tx_len w.key
  have h2 := tx_len w.val
  unfold wb
  split <;> simp <;> omega
theorem flat_byt {α : Type} (f : α → List Int) (l : List α) (h : ∀ x ∈ l, Byt (f x)) : Byt (l.flatMap f) := by
  induction l with
  | nil => exact Byt.nil
  | cons x r ih =>
    rw [List.flatMap_cons]
    exact (h x (List.mem_cons_self ..)).append (ih fun y hy => h y (List.mem_cons_of_mem _ hy))
theorem flat_len {α : Type} (f : α → List Int) (l : List α) (k : Nat) (h : ∀ x ∈ l, (f x).length ≤ k) : (l.flatMap f).length ≤ l.length * k := by
  induction l with
  | nil => simp
  | cons x r ih =>
    rw [List.flatMap_cons, List.length_append, List.length_cons, Nat.succ_mul]
    have h1 := h x (List.mem_cons_self ..)
    have h2 := ih fun y hy => h y (List.mem_cons_of_mem _ hy)
    omega
theorem upW_mem : ∀ (l : List Wr) (a : ByteArray), upW a l = true → ∀ w ∈ l, okW w = true
  | [], a, h, w, hw => by cases hw
  | x :: r, a, h, w, hw => by
    simp only [upW, Bool.and_eq_true] at h
    rcases List.mem_cons.1 hw with rfl | hw
    · exact h.1.1
    · exact upW_mem r x.key h.2 w hw
def okP (p : Pr) : Prop := (0 ≤ p.num ∧ p.num ≤ 2147483647) ∧ (0 ≤ p.frm ∧ p.frm ≤ 1099511627775) ∧ (0 ≤ p.til ∧ p.til ≤ 1099511627775)
theorem upP_le : ∀ (l : List Pr) (seen : List Int) (t e : Int), upP t seen e l = true → e ≤ t
  | [], seen, t, e, h => by
    simp only [upP, decide_eq_true_eq] at h
    omega
  | p :: r, seen, t, e, h => by
    simp only [upP, Bool.and_eq_true, decide_eq_true_eq] at h
    have := upP_le r _ t _ h.2
    omega
theorem upP_mem : ∀ (l : List Pr) (seen : List Int) (t e : Int), upP t seen e l = true → 0 ≤ e → t ≤ 1099511627775 → ∀ p ∈ l, okP p
  | [], seen, t, e, h, h0, h1, p, hp => by cases hp
  | q :: r, seen, t, e, h, h0, h1, p, hp => by
    simp only [upP, isN, Bool.and_eq_true, decide_eq_true_eq] at h
    have hle := upP_le r _ t _ h.2
    rcases List.mem_cons.1 hp with rfl | hp
    · exact ⟨by omega, by omega, by omega⟩
    · exact upP_mem r _ t _ h.2 (by omega) h1 p hp
theorem pb_byt (p : Pr) (h : okP p) : Byt (pb p) := (enc_byt _ h.1.1).append ((enc_byt _ h.2.1.1).append (enc_byt _ h.2.2.1))
theorem pb_len (p : Pr) : (pb p).length ≤ 30 := by
  have h1 := enc_len p.num
  have h2 := enc_len p.frm
  have h3 := enc_len p.til
  simp only [pb, List.length_append]
  omega

/-! ### Reading -/
/-- Where a reader stands: at a place, or at its first fault. -/
inductive Rs where
  | at (n : Nat)
  | bad (p : Nat)
def Rs.pos : Rs → Nat
  | .at n => n
  | .bad n => n
def Rs.isBad : Rs → Bool
  | .at _ => false
  | .bad _ => true

def rnum (xs : List Int) (most : Int) : Rs → Int × Rs
  | .bad p => (0, .bad p)
  | .at n => match tk xs n with
    | none => (0, .bad n)
    | some q => if q.1 ≤ most then (q.1, .at q.2.toNat) else (0, .bad n)
def rtxt (xs : List Int) (most : Int) : Rs → ByteArray × Rs
  | .bad p => (⟨#[]⟩, .bad p)
  | .at n => match tt xs n most with
    | none => (⟨#[]⟩, .bad n)
    | some q => (strOfNums q.1, .at q.2.toNat)
def rmark (xs : List Int) (lo hi : Int) : Rs → Int × Rs
  | .bad p => (0, .bad p)
  | .at n => if n < xs.length ∧ lo ≤ xs.getD n 0 ∧ xs.getD n 0 ≤ hi then (xs.getD n 0, .at (n + 1)) else (0, .bad n)
def rwr (xs : List Int) (s : Rs) : Wr × Rs :=
  if (rmark xs 0 1 s).1 = 1 then (⟨(rtxt xs 16 (rmark xs 0 1 s).2).1, ⟨#[]⟩, true⟩, (rtxt xs 16 (rmark xs 0 1 s).2).2)
  else (⟨(rtxt xs 16 (rmark xs 0 1 s).2).1, (rtxt xs 64 (rtxt xs 16 (rmark xs 0 1 s).2).2).1, false⟩, (rtxt xs 64 (rtxt xs 16 (rmark xs 0 1 s).2).2).2)
def rpr (xs : List Int) (s : Rs) : Pr × Rs :=
  (⟨(rnum xs 2147483647 s).1, (rnum xs 1099511627775 (rnum xs 2147483647 s).2).1, (rnum xs 1099511627775 (rnum xs 1099511627775 (rnum xs 2147483647 s).2).2).1⟩, (rnum xs 1099511627775 (rnum xs 1099511627775 (rnum xs 2147483647 s).2).2).2)
def rlist {α : Type} (f : Rs → α × Rs) : Nat → Rs → List α × Rs
  | 0, s => ([], s)
  | k + 1, s => ((f s).1 :: (rlist f k (f s).2).1, (rlist f k (f s).2).2)
theorem rlist_snoc {α : Type} (f : Rs → α × Rs) : ∀ (k : Nat) (s : Rs), rlist f (k + 1) s = ((rlist f k s).1 ++ [(f (rlist f k s).2).1], (f (rlist f k s).2).2)
  | 0, s => rfl
  | k + 1, s => by
    have ih := rlist_snoc f k (f s).2
    rw [show rlist f (k + 1 + 1) s = ((f s).1 :: (rlist f (k + 1) (f s).2).1, (rlist f (k + 1) (f s).2).2) from rfl, ih]
    rfl
theorem rlist_len {α : Type} (f : Rs → α × Rs) : ∀ (k : Nat) (s : Rs), (rlist f k s).1.length = k
  | 0, s => rfl
  | k + 1, s => by
    rw [show (rlist f (k + 1) s).1 = (f s).1 :: (rlist f k (f s).2).1 from rfl, List.length_cons, rlist_len f k]

theorem rnum_bd {xs : List Int} (hb : Byt xs) (most : Int) (h0 : 0 ≤ most) (s : Rs) : 0 ≤ (rnum xs most s).1 ∧ (rnum xs most s).1 ≤ most := by
  cases s with
  | bad p => exact ⟨Int.le_refl _, h0⟩
  | «at» n =>
    unfold rnum
    simp only []
    cases h : tk xs n with
    | none => exact ⟨Int.le_refl _, h0⟩
    | some q =>
      obtain ⟨v, nx⟩ := q
      obtain ⟨a, b, _, _, _, _, h1, _⟩ := tk_spec hb h
      simp only []
      split
      · exact ⟨h1, by assumption⟩
      · exact ⟨Int.le_refl _, h0⟩

/-- How the end is judged: the place, and the error. -/
def verd (s : Rs) (len : Nat) (right : Bool) : Int × Int :=
  match s with
  | .bad p => (p, 61)
  | .at n => if n < len then (n, 61) else if right then (0, 0) else (0, 60)

/-- What is read of a commit, ahead of the judgement. -/
def sC (xs : List Int) (kind : Int) : Rs := (rmark xs kind kind (.at 0)).2
def pC (xs : List Int) : Cm × Rs :=
  (⟨(rnum xs 1099511627775 (sC xs 67)).1, (rlist (rwr xs) (rnum xs 64 (rnum xs 1099511627775 (sC xs 67)).2).1.toNat (rnum xs 64 (rnum xs 1099511627775 (sC xs 67)).2).2).1⟩,
    (rlist (rwr xs) (rnum xs 64 (rnum xs 1099511627775 (sC xs 67)).2).1.toNat (rnum xs 64 (rnum xs 1099511627775 (sC xs 67)).2).2).2)
def pR (xs : List Int) : Rw × Rs :=
  (⟨(rtxt xs 16 (sC xs 82)).1, (rtxt xs 64 (rtxt xs 16 (sC xs 82)).2).1, (rnum xs 1099511627775 (rtxt xs 64 (rtxt xs 16 (sC xs 82)).2).2).1⟩, (rnum xs 1099511627775 (rtxt xs 64 (rtxt xs 16 (sC xs 82)).2).2).2)
def pG (xs : List Int) : Gn × Rs :=
  (⟨(rtxt xs 16 (sC xs 71)).1, (rnum xs 1099511627775 (rtxt xs 16 (sC xs 71)).2).1⟩, (rnum xs 1099511627775 (rtxt xs 16 (sC xs 71)).2).2)
/-- Up to the pairs' number. -/
def sM (xs : List Int) : Rs := (rnum xs 2147483647 (rnum xs 1099511627775 (sC xs 77)).2).2
def pM (xs : List Int) : Mf × Rs :=
  (⟨(rnum xs 1099511627775 (sC xs 77)).1, (rnum xs 2147483647 (rnum xs 1099511627775 (sC xs 77)).2).1, (rlist (rpr xs) (rnum xs 16 (sM xs)).1.toNat (rnum xs 16 (sM xs)).2).1⟩,
    (rlist (rpr xs) (rnum xs 16 (sM xs)).1.toNat (rnum xs 16 (sM xs)).2).2)

def vC (xs : List Int) : Int × Int := verd (pC xs).2 xs.length (rightC (pC xs).1)
def vR (xs : List Int) : Int × Int := verd (pR xs).2 xs.length (rightR (pR xs).1)
def vG (xs : List Int) : Int × Int := verd (pG xs).2 xs.length (rightG (pG xs).1)
def vM (xs : List Int) : Int × Int := verd (pM xs).2 xs.length (rightM (pM xs).1)
def oC (xs : List Int) : Cm := if (vC xs).2 = 0 then (pC xs).1 else ⟨0, []⟩
def oR (xs : List Int) : Rw := if (vR xs).2 = 0 then (pR xs).1 else ⟨⟨#[]⟩, ⟨#[]⟩, 0⟩
def oG (xs : List Int) : Gn := if (vG xs).2 = 0 then (pG xs).1 else ⟨⟨#[]⟩, 0⟩
def oM (xs : List Int) : Mf := if (vM xs).2 = 0 then (pM xs).1 else ⟨0, 0, []⟩

end Go.Proofs.Ytheidhkmmihjlaa
