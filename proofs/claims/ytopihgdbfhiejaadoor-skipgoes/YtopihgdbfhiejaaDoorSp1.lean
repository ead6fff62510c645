/-
  One that goes on from key to key, beside Inserts, without memory: how many steps it may still take; what it has met.
-/
import Derived.Test.YtopihgdbfhiejaaDoorSm0
set_option linter.unusedVariables false
set_option linter.unusedSimpArgs false
namespace Go.Proofs.YtopihgdbfhiejaaDoor
open Go.RowKit Go.Maps

def ahd (s : Sl) (fr : ByteArray) (j : Nat) : Bool := decide (j ≠ 0) && !decide (bl (s.at j).k < bl fr)
/-- How many keys are not below a text. -/
def ahead (s : Sl) (fr : ByteArray) : Nat := ((List.range s.tw.length).filter (ahd s fr)).length
/-- The same keys. -/
structure Smk (s s' : Sl) : Prop where
  len : s'.tw.length = s.tw.length
  k : ∀ i, (s'.at i).k = (s.at i).k
section
variable {z : Nat} {s s' : Sl} {x : AskR} {o o' v : Opm}
theorem cnt_smk (h : Smk s s') (i : Nat) (k : ByteArray) : cnt s' i k = cnt s i k := by
  unfold cnt
  rw [h.len]
  congr 2
  funext j
  unfold btw
  rw [h.k, h.k]
theorem ahead_smk (h : Smk s s') (fr : ByteArray) : ahead s' fr = ahead s fr := by
  unfold ahead
  rw [h.len]
  congr 2
  funext j
  unfold ahd
  rw [h.k]
theorem filter_ext {p q : Nat → Bool} {l : List Nat} (h : ∀ x ∈ l, p x = q x) : (l.filter p).length = (l.filter q).length := by
  rw [List.filter_congr h]
theorem cnt_linked {i0 : Nat} {kk : ByteArray} {r : Int} {cs : List Nat} (hi : i0 < s.tw.length) {i : Nat} (hii : i < s.tw.length) (k : ByteArray) : cnt (s.linked i0 kk r cs) i k ≤ cnt s i k + 1 := by
  unfold cnt
  rw [linked_len, List.range_succ, List.filter_append, List.length_append]
  have e : ((List.range s.tw.length).filter (btw (s.linked i0 kk r cs) i k)).length = ((List.range s.tw.length).filter (btw s i k)).length := filter_ext (fun j hj => by
    have hj' := List.mem_range.1 hj
    unfold btw
    rw [(linked_old (kk := kk) (rr := r) (cs := cs) hi hii).1, (linked_old (kk := kk) (rr := r) (cs := cs) hi hj').1])
  rw [e]
  have := List.length_filter_le (btw (s.linked i0 kk r cs) i k) [s.tw.length]
  simp only [List.length_singleton] at this
  omega
theorem ahead_linked {i0 : Nat} {kk : ByteArray} {r : Int} {cs : List Nat} (hi : i0 < s.tw.length) (fr : ByteArray) : ahead (s.linked i0 kk r cs) fr ≤ ahead s fr + 1 := by
  unfold ahead
  rw [linked_len, List.range_succ, List.filter_append, List.length_append]
  have e : ((List.range s.tw.length).filter (ahd (s.linked i0 kk r cs) fr)).length = ((List.range s.tw.length).filter (ahd s fr)).length := filter_ext (fun j hj => by
    have hj' := List.mem_range.1 hj
    unfold ahd
    rw [(linked_old (kk := kk) (rr := r) (cs := cs) hi hj').1])
  rw [e]
  have := List.length_filter_le (ahd (s.linked i0 kk r cs) fr) [s.tw.length]
  simp only [List.length_singleton] at this
  omega
theorem ahead_le (s : Sl) (fr : ByteArray) : ahead s fr ≤ s.tw.length := by
  unfold ahead
  have := List.length_filter_le (ahd s fr) (List.range s.tw.length)
  simpa using this
/-- Behind a key that is there there is one less. -/
theorem ahead_next {fr fr' : ByteArray} {j : Nat} (h1 : 1 ≤ j) (hj : j < s.tw.length) (ha : ¬ Blw (s.at j).k fr) (hb : Blw (s.at j).k fr') (hm : ∀ k, ¬ Blw k fr' → ¬ Blw k fr) : ahead s fr' + 1 ≤ ahead s fr := by
  unfold ahead
  have := filter_less (p := ahd s fr) (q := ahd s fr') (List.range s.tw.length) (fun y _ hy => by
    unfold ahd at hy ⊢
    simp only [Bool.and_eq_true, Bool.not_eq_true', decide_eq_true_eq, decide_eq_false_iff_not] at hy ⊢
    exact ⟨hy.1, hm _ hy.2⟩) ⟨j, List.mem_range.2 hj, by
    unfold ahd
    simp only [Bool.and_eq_true, Bool.not_eq_true', decide_eq_true_eq, decide_eq_false_iff_not]
    exact ⟨by omega, ha⟩, by
    unfold ahd
    have : decide (bl (s.at j).k < bl fr') = true := decide_eq_true hb
    rw [this]; simp⟩
  omega
/-- What a step makes of the keys. -/
theorem Sq.smk (h : Run s x o) (hs : Sq z s o s' o') : Smk s s' ∨ ∃ i0 cs, i0 < s.tw.length ∧ s' = s.linked i0 o.k o.r cs := by
  cases hs with
  | give c rest h0 ec => exact .inl ⟨rfl, fun _ => rfl⟩
  | stp s' o' h4 hs =>
    have hI := h.oi h4
    cases hs with
    | link h0 => exact .inr ⟨o.pt 0, o.cs, (hI.pt 0 (by rw [(hI.two h0).1]; exact Nat.le_refl _) (by decide)).1, rfl⟩
    | raise h0 =>
      obtain ⟨t1, t2, t3, t4, _⟩ := hI.tw (hI.thr h0)
      obtain ⟨p1, p2, _⟩ := hI.pt o.lv (Nat.le_refl _) hI.lv
      exact .inl ⟨raised_len, fun i => (raised_old p1 t1 i).1⟩
    | slip h0 =>
      obtain ⟨t1, _⟩ := hI.tw (hI.thr h0)
      have h9 := Sam.fset (l := o.lv) (y := bh s (o.pt o.lv) (o.pn o.lv) o.lv) t1
      exact .inl ⟨h9.len, h9.k⟩
    | leave => exact .inl ⟨rfl, fun _ => rfl⟩
    | found => exact .inl ⟨rfl, fun _ => rfl⟩
    | pass => exact .inl ⟨rfl, fun _ => rfl⟩
    | take c => exact .inl ⟨rfl, fun _ => rfl⟩
    | late => exact .inl ⟨rfl, fun _ => rfl⟩
/-- A Next's steps to come. -/
theorem cur_next (h : Run s x o) (hk : okd x = 1) (h1 : o.st = 1) : cur s o = sm8 (tau s o) + cnt s (o.pt o.lv) o.k := by
  obtain ⟨z1, z2, z3⟩ := h.h0 (by omega)
  rw [cur_1 h1, z1, z2]
  simp
theorem Run.next1 (h : Run s x o) (hk : okd x = 1) : o.st = 1 ∧ o.h = 0 ∧ o.cs = [] ∧ o.tw = 0 := by
  obtain ⟨z1, z2, z3⟩ := h.h0 (by omega)
  refine ⟨?_, z1, z2, z3⟩
  rcases h.st with q | q | q | q
  · exact q
  · have := ((h.oi (by omega)).two q).2.2.1; rw [h.kd, hk] at this; omega
  · exact absurd z3 ((h.oi (by omega)).thr q)
  · exact absurd z2 (h.four q).2.1
theorem tau_next (h0 : o.h = 0) (hs : ∀ l, o.pn l = o.pn l) : tau s' o = tau s o := by
  funext l
  unfold tau
  rw [h0]
  simp
/-- Another one's step leaves a Next its steps, but for a key that has come in. -/
theorem cur_other {y : AskR} (hv : Run s y v) (hk : okd y = 1) (h : Run s x o) (hs : Sq z s o s' o') : cur s' v + 101 * ahead s' y.key + 102 * (60 - (s'.tw.length - 1)) ≤ cur s v + 101 * ahead s y.key + 102 * (60 - (s.tw.length - 1)) ∨ 61 < s'.tw.length := by
  obtain ⟨a1, a2, a3, a4⟩ := hv.next1 hk
  have ht : tau s' v = tau s v := tau_next a2 (fun _ => rfl)
  have hc : ∀ t : Sl, cur t v = sm8 (tau t v) + cnt t (v.pt v.lv) v.k := fun t => by
    rw [cur_1 a1, a2, a3]; simp
  have p1 := ((hv.oi (by omega)).pt v.lv (Nat.le_refl _) (hv.oi (by omega)).lv).1
  rw [hc, hc, ht]
  rcases hs.smk h with q | ⟨i0, cs, q1, rfl⟩
  · left
    rw [cnt_smk q, ahead_smk q, q.len]
    omega
  · have e1 := cnt_linked (kk := o.k) (r := o.r) (cs := cs) q1 p1 v.k
    have e2 := ahead_linked (kk := o.k) (r := o.r) (cs := cs) q1 y.key
    have e3 := linked_len (s := s) (i := i0) (k := o.k) (r := o.r) (cs := cs)
    rw [e3]
    by_cases q2 : s.tw.length ≤ 60
    · left; omega
    · right; omega
theorem cur_next_le {n : Nat} (h : Run s x o) (hk : okd x = 1) (hn : s.tw.length ≤ n + 1) : cur s o ≤ 16 + n := by
  obtain ⟨a1, a2, a3, a4⟩ := h.next1 hk
  rw [cur_next h hk a1]
  have h1 : ∀ l, l < 8 → tau s o l ≤ 2 := fun l _ => by
    unfold tau
    rw [a2]
    repeat' split
    all_goals omega
  have := sm8_le h1
  have := cnt_le s (o.pt o.lv) o.k
  omega
end
/-- The next text. -/
def nul : ByteArray := ⟨#[0]⟩
theorem bl_app (a b : ByteArray) : bl (a ++ b) = bl a ++ bl b := by
  unfold bl
  rw [ByteArray.data_append, Array.toList_append]
theorem lt_app {a : List UInt8} : a < a ++ [0] := by
  induction a with
  | nil => exact List.nil_lt_cons _ _
  | cons x a ih => exact List.cons_lt_cons_iff.2 (.inr ⟨rfl, ih⟩)
/-- Below a key and a nought are just the key and what is below it. -/
theorem blw_next (k f : ByteArray) : Blw k (f ++ nul) ↔ (k = f ∨ Blw k f) := by
  have key : ∀ (a b : List UInt8), a < b ++ [0] ↔ (a = b ∨ a < b) := by
    intro a
    induction a with
    | nil =>
      intro b
      cases b with
      | nil => simp
      | cons y b => simp
    | cons x a ih =>
      intro b
      cases b with
      | nil =>
        simp only [List.nil_append, List.cons_lt_cons_iff, List.not_lt_nil, and_false, or_false, reduceCtorEq]
        constructor
        · intro q; exact absurd q (by simp)
        · intro q; simp at q
      | cons y b =>
        rw [List.cons_append, List.cons_lt_cons_iff, List.cons_lt_cons_iff, ih b]
        constructor
        · rintro (q | ⟨rfl, q | q⟩)
          · exact .inr (.inl q)
          · exact .inl (by rw [q])
          · exact .inr (.inr ⟨rfl, q⟩)
        · rintro (q | q | ⟨rfl, q⟩)
          · simp at q; exact .inr ⟨q.1, .inl q.2⟩
          · exact .inl q
          · exact .inr ⟨rfl, .inr q⟩
  unfold Blw
  rw [bl_app, show bl nul = [0] from rfl, key]
  exact ⟨fun q => q.imp bl_inj id, fun q => q.imp (fun e => by rw [e]) id⟩
end Go.Proofs.YtopihgdbfhiejaaDoor
