/-
  Lk1: Lock words, without memory: who reads, who writes, who is in the way; what is left when one comes or goes.
-/
import Derived.Test.YtafbchjmjfpilaaDoorLk0
set_option linter.unusedVariables false
set_option linter.unusedSimpArgs false
namespace Go.Proofs.YtafbchjmjfpilaaDoor
namespace Lk

section
variable {w r x me k j : Nat}

theorem bit_add : ∀ {me r k : Nat}, r.testBit me = false → (r + 2 ^ me).testBit k = (r.testBit k || decide (k = me)) := by
  intro me
  induction me with
  | zero =>
    intro r k h
    have hr : r % 2 = 0 := by rw [Nat.testBit_zero] at h; simpa using h
    cases k with
    | zero => simp [Nat.testBit_zero]; omega
    | succ k =>
      rw [Nat.testBit_succ, Nat.testBit_succ]
      have : (r + 2 ^ 0) / 2 = r / 2 := by rw [Nat.pow_zero]; omega
      rw [this]; simp
  | succ me ih =>
    intro r k h
    rw [Nat.testBit_succ] at h
    have e : r + 2 ^ (me + 1) = r + 2 * 2 ^ me := by rw [Nat.pow_succ, Nat.mul_comm]
    rw [e]
    cases k with
    | zero =>
      rw [Nat.testBit_zero, Nat.testBit_zero]
      have : (r + 2 * 2 ^ me) % 2 = r % 2 := by omega
      rw [this]; simp
    | succ k =>
      rw [Nat.testBit_succ, Nat.testBit_succ]
      have : (r + 2 * 2 ^ me) / 2 = r / 2 + 2 ^ me := by omega
      rw [this, ih h]; simp

theorem bit_ge (h : r.testBit me = true) : 2 ^ me ≤ r := by
  by_cases q : r < 2 ^ me
  · rw [Nat.testBit_lt_two_pow q] at h; cases h
  · omega

theorem bit_sub : ∀ {me r k : Nat}, r.testBit me = true → (r - 2 ^ me).testBit k = (r.testBit k && !decide (k = me)) := by
  intro me
  induction me with
  | zero =>
    intro r k h
    have hr : r % 2 = 1 := by rw [Nat.testBit_zero] at h; simpa using h
    cases k with
    | zero => simp [Nat.testBit_zero]; omega
    | succ k =>
      rw [Nat.testBit_succ, Nat.testBit_succ]
      have : (r - 2 ^ 0) / 2 = r / 2 := by rw [Nat.pow_zero]; omega
      rw [this]; simp
  | succ me ih =>
    intro r k h
    rw [Nat.testBit_succ] at h
    have g := bit_ge h
    have e : r - 2 ^ (me + 1) = r - 2 * 2 ^ me := by rw [Nat.pow_succ, Nat.mul_comm]
    rw [e]
    cases k with
    | zero =>
      rw [Nat.testBit_zero, Nat.testBit_zero]
      have : (r - 2 * 2 ^ me) % 2 = r % 2 := by omega
      rw [this]; simp
    | succ k =>
      rw [Nat.testBit_succ, Nat.testBit_succ]
      have : (r - 2 * 2 ^ me) / 2 = r / 2 - 2 ^ me := by omega
      rw [this, ih h]; simp

theorem pow16 (h : me < 16) : 2 ^ me ≤ 32768 := by
  have := Nat.pow_le_pow_right (n := 2) (by omega) (by omega : me ≤ 15)
  simpa using this

/-- A lock word: which bits are whose. -/
structure Wo (w r x : Nat) : Prop where
  eq : w = r + 4294967296 * x
  r : r < 65536
  x : x ≤ 16

def rt (w : Nat) : Bool := decide (w % 4294967296 < 65536) && decide (w / 4294967296 ≤ 16)

theorem rt_iff : rt w = true ↔ Wo w (w % 4294967296) (w / 4294967296) := by
  unfold rt
  simp only [Bool.and_eq_true, decide_eq_true_eq]
  constructor
  · rintro ⟨a, b⟩; exact ⟨by omega, a, b⟩
  · rintro ⟨_, a, b⟩; exact ⟨a, b⟩
theorem Wo.mod (h : Wo w r x) : w % 4294967296 = r := by have := h.eq; have := h.r; omega
theorem Wo.div (h : Wo w r x) : w / 4294967296 = x := by have := h.eq; have := h.r; omega
theorem Wo.rt (h : Wo w r x) : rt w = true := by
  unfold Lk.rt; rw [h.mod, h.div]; simp [h.r, h.x]
theorem Wo.lt (h : Wo w r x) : w < 18446744073709551616 := by have := h.eq; have := h.r; have := h.x; omega

theorem Wo.bit (h : Wo w r x) (hk : k < 32) : w.testBit k = r.testBit k := by
  have e : w = 2 ^ 32 * x + r := by rw [h.eq]; omega
  have hr : r < 2 ^ 32 := Nat.lt_trans h.r (by decide)
  rw [e, Nat.testBit_two_pow_mul_add x hr k, if_pos hk]

theorem bit_le (hr : r < 65536) (h : r.testBit k = true) : k < 16 := by
  by_cases q : k < 16
  · exact q
  · have := bit_ge h
    have := Nat.pow_le_pow_right (n := 2) (by omega) (by omega : 16 ≤ k)
    have e : (2 : Nat) ^ 16 = 65536 := by decide
    omega

theorem bits_eq {a b : Nat} (ha : a < 65536) (hb : b < 65536) (h : ∀ k, k < 16 → a.testBit k = b.testBit k) : a = b := by
  apply Nat.eq_of_testBit_eq
  intro k
  by_cases q : k < 16
  · exact h k q
  · have : ∀ {z : Nat}, z < 65536 → z.testBit k = false := fun {z} hz => by
      cases e : z.testBit k with
      | false => rfl
      | true => exact absurd (bit_le hz e) q
    rw [this ha, this hb]

theorem bits_lt {a : Nat} (h : ∀ k, 16 ≤ k → a.testBit k = false) : a < 65536 := by
  have := Nat.lt_pow_two_of_testBit (n := 16) a (fun k hk => h k hk)
  simpa using this

/-! Who is told. -/

def rds (w : Nat) : List Nat := (List.range 16).filter fun k => w.testBit k
def agn (w me : Nat) (wr : Bool) : List Nat := (List.range 16).filter fun k => !(k == me) && (w / 4294967296 == k + 1 || wr && w.testBit k)

theorem mem_rds : k ∈ rds w ↔ k < 16 ∧ w.testBit k = true := by unfold rds; rw [List.mem_filter, List.mem_range]
theorem mem_agn {wr : Bool} : k ∈ agn w me wr ↔ k < 16 ∧ k ≠ me ∧ (w / 4294967296 = k + 1 ∨ wr = true ∧ w.testBit k = true) := by
  unfold agn; rw [List.mem_filter, List.mem_range]; simp
theorem rds_nd (w : Nat) : (rds w).Nodup := List.Nodup.sublist List.filter_sublist List.nodup_range
theorem agn_le (w me : Nat) : (agn w me false).length ≤ (agn w me true).length := by
  unfold agn
  rw [← List.countP_eq_length_filter, ← List.countP_eq_length_filter]
  exact List.countP_mono_left (fun k _ h => by simp at h ⊢; exact ⟨h.1, .inl h.2⟩)

/-- Nobody is in the way of one that would read: the writer is none, or it itself. -/
theorem agn_read (h : Wo w r x) (hm : me < 16) : agn w me false = [] ↔ x = 0 ∨ x = me + 1 := by
  rw [List.eq_nil_iff_forall_not_mem]
  constructor
  · intro q
    have := q (x - 1)
    rw [mem_agn, h.div] at this
    by_cases z : x = 0 ∨ x = me + 1
    · exact z
    · have hx := h.x
      exact absurd ⟨by omega, by omega, .inl (by omega)⟩ this
  · intro z k hk
    have := mem_agn.1 hk
    rw [h.div] at this
    rcases this with ⟨a, b, c | ⟨c, _⟩⟩
    · omega
    · cases c

theorem agn_write (h : Wo w r x) (hm : me < 16) : agn w me true = [] ↔ (x = 0 ∨ x = me + 1) ∧ ∀ k, k < 16 → k ≠ me → r.testBit k = false := by
  rw [List.eq_nil_iff_forall_not_mem]
  constructor
  · intro q
    refine ⟨?_, fun k hk hn => ?_⟩
    · have := q (x - 1)
      rw [mem_agn, h.div] at this
      by_cases z : x = 0 ∨ x = me + 1
      · exact z
      · have hx := h.x
        exact absurd ⟨by omega, by omega, .inl (by omega)⟩ this
    · have := q k
      rw [mem_agn, h.bit (by omega)] at this
      cases e : r.testBit k with
      | false => rfl
      | true => exact absurd ⟨hk, hn, .inr ⟨rfl, e⟩⟩ this
  · rintro ⟨z, y⟩ k hk
    have := mem_agn.1 hk
    rw [h.div] at this
    rcases this with ⟨a, b, c | ⟨_, c⟩⟩
    · omega
    · rw [h.bit (by omega), y k a b] at c; cases c

/-! One comes, one goes. -/

def rdd (w me : Nat) : Nat := if w.testBit me then w else w + 2 ^ me
def wtd (w me : Nat) : Nat := w % 4294967296 + (me + 1) * 4294967296
def lvr (r me : Nat) : Nat := if r.testBit me then r - 2 ^ me else r
def lvd (w me : Nat) : Nat := if lvr w me / 4294967296 = me + 1 then lvr w me % 4294967296 else lvr w me

theorem rdd_lt (hr : r < 65536) (hm : me < 16) : rdd r me < 65536 := by
  refine bits_lt fun k hk => ?_
  unfold rdd
  have z : r.testBit k = false := by
    cases e : r.testBit k with
    | false => rfl
    | true => have := bit_le hr e; omega
  split
  · exact z
  · next q => rw [bit_add (by simpa using q), z]; simp; omega
theorem rdd_bit : (rdd r me).testBit k = (r.testBit k || decide (k = me)) := by
  unfold rdd
  split
  · next q =>
    by_cases e : k = me
    · subst e; simp [q]
    · simp [e]
  · next q => exact bit_add (by simpa using q)
theorem Wo.read (h : Wo w r x) (hm : me < 16) : Wo (rdd w me) (rdd r me) x := by
  refine ⟨?_, rdd_lt h.r hm, h.x⟩
  have := h.eq
  unfold rdd
  rw [h.bit (by omega : me < 32)]
  split <;> omega
theorem Wo.write (h : Wo w r x) (hm : me < 16) : Wo (wtd w me) r (me + 1) := by
  refine ⟨?_, h.r, by omega⟩
  unfold wtd; rw [h.mod]; omega
theorem lvr_lt (hr : r < 65536) : lvr r me < 65536 := by
  unfold lvr
  split
  · exact Nat.lt_of_le_of_lt (Nat.sub_le _ _) hr
  · exact hr
theorem lvr_bit : (lvr r me).testBit k = (r.testBit k && !decide (k = me)) := by
  unfold lvr
  split
  · next q => exact bit_sub q
  · next q =>
    by_cases e : k = me
    · subst e; simp; simpa using q
    · simp [e]
theorem Wo.off (h : Wo w r x) (hm : me < 16) : Wo (lvr w me) (lvr r me) x := by
  refine ⟨?_, lvr_lt h.r, h.x⟩
  have := h.eq
  unfold lvr
  rw [h.bit (by omega : me < 32)]
  split
  · next q => have := bit_ge q; omega
  · omega
theorem Wo.leave (h : Wo w r x) (hm : me < 16) : Wo (lvd w me) (lvr r me) (if x = me + 1 then 0 else x) := by
  have o := h.off hm
  unfold lvd
  rw [o.div]
  split
  · refine ⟨by rw [o.mod]; omega, o.r, Nat.zero_le _⟩
  · exact o
theorem Wo.only {w' : Nat} (h : Wo w r x) (h' : Wo w' r x) : w = w' := by rw [h.eq, h'.eq]

/-- What was taken and left is as it was left. -/
theorem write_leave (h : Wo w r x) (hm : me < 16) (hx : x = 0 ∨ x = me + 1) : lvd (wtd w me) me = lvd w me := by
  have a := (h.write hm).leave hm
  have b := h.leave hm
  rw [if_pos rfl] at a
  have : (if x = me + 1 then 0 else x) = 0 := by split <;> omega
  rw [this] at b
  exact a.only b

/-- Behind Leave a worker is in nobody's way. -/
theorem leave_free (h : Wo w r x) (hm : me < 16) {o : Nat} {wr : Bool} : me ∉ agn (lvd w me) o wr := by
  intro q
  have l := h.leave hm
  have := mem_agn.1 q
  rw [l.div, l.bit (by omega : me < 32), lvr_bit] at this
  rcases this with ⟨_, _, c | ⟨_, c⟩⟩
  · split at c <;> omega
  · simp at c

/-- Where a worker writes, no other one may read or write. -/
theorem write_alone (h : Wo w r x) (hm : me < 16) {o : Nat} (ho : o ≠ me) {wr : Bool} : me ∈ agn (wtd w me) o wr :=
  mem_agn.2 ⟨hm, fun q => ho q.symm, .inl (h.write hm).div⟩

/-- All of a row have come to read. -/
def cme (l : List Nat) (w : Nat) : Nat := l.foldl rdd w

theorem cme_lt : ∀ {l : List Nat} {w : Nat}, w < 65536 → (∀ y ∈ l, y < 16) → cme l w < 65536 := by
  intro l
  induction l with
  | nil => intro w h _; exact h
  | cons a l ih => intro w h q; exact ih (rdd_lt h (q a List.mem_cons_self)) (fun y hy => q y (List.mem_cons_of_mem _ hy))
theorem cme_bit : ∀ {l : List Nat} {w k : Nat}, (cme l w).testBit k = (w.testBit k || decide (k ∈ l)) := by
  intro l
  induction l with
  | nil => intro w k; simp [cme]
  | cons a l ih =>
    intro w k
    show (cme l (rdd w a)).testBit k = _
    rw [ih, rdd_bit]
    simp [Bool.or_assoc]
theorem cme_same {l l' : List Nat} (h : ∀ y ∈ l, y < 16) (he : ∀ y, y ∈ l ↔ y ∈ l') : cme l 0 = cme l' 0 := by
  refine bits_eq (cme_lt (by decide) h) (cme_lt (by decide) (fun y hy => h y ((he y).2 hy))) (fun k _ => ?_)
  rw [cme_bit, cme_bit]
  simp [he]

/-- One that reads goes: the word is less. -/
theorem lvr_less (h : r.testBit me = true) : lvr r me < r := by
  unfold lvr; rw [if_pos h]
  have := bit_ge h
  have := Nat.two_pow_pos me
  omega
theorem lvd_small (hr : r < 65536) (hm : me < 16) : lvd r me = lvr r me := by
  have h : Wo r r 0 := ⟨by omega, hr, Nat.zero_le _⟩
  have l := h.leave hm
  rw [if_neg (by omega)] at l
  have := l.eq
  omega

/-- All of a row have left. -/
def gon (l : List Nat) (w : Nat) : Nat := l.foldl lvr w
theorem gon_lt : ∀ {l : List Nat} {w : Nat}, w < 65536 → gon l w < 65536 := by
  intro l
  induction l with
  | nil => intro w h; exact h
  | cons a l ih => intro w h; exact ih (lvr_lt h)
theorem gon_bit : ∀ {l : List Nat} {w k : Nat}, (gon l w).testBit k = (w.testBit k && !decide (k ∈ l)) := by
  intro l
  induction l with
  | nil => intro w k; simp [gon]
  | cons a l ih =>
    intro w k
    show (gon l (lvr w a)).testBit k = _
    rw [ih, lvr_bit]
    simp [Bool.and_assoc]
theorem gon_all (hr : r < 65536) : gon (rds r) r = 0 := by
  refine bits_eq (gon_lt hr) (by decide) (fun k hk => ?_)
  rw [gon_bit]
  cases e : r.testBit k with
  | false => simp
  | true => simp [mem_rds, hk, e]
end
end Lk
end Go.Proofs.YtafbchjmjfpilaaDoor
