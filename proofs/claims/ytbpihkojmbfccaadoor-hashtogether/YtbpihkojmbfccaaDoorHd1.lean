/-
  A step of one of several operations, without memory.
-/
import Derived.Test.YtbpihkojmbfccaaDoorHd0
set_option linter.unusedVariables false
set_option linter.unusedSimpArgs false
namespace Go.Proofs.YtbpihkojmbfccaaDoor
open Go.RowKit Go.Maps Go.Sort

theorem Tb.inv.home {s : Tb} {bk : ByteArray → Nat} {T : List Bool} {N : List Int} {u : Nat} (h : s.inv bk T N u) {e : En} (he : e ∈ s.all) : e ∈ s.at (bk e.k) := by
  obtain ⟨b, hb, h1⟩ := all_at he
  rw [(h.key b (by rw [← h.len]; exact hb) e h1).1]
  exact h1

theorem Stp.all_mono {z : Nat} {s s' : Tb} {o o' : Opm} (h : Stp z s o s' o') (hl : bo s o < s.ch.length) {e : En} (he : e ∈ s.all) : e ∈ s'.all := by
  cases h with
  | link c h0 hc hcs hi => exact (linked_all hl).mem_iff.2 (List.mem_append.2 (.inl he))
  | _ => exact he
theorem Stp.sp_keep {z : Nat} {s s' : Tb} {o o' : Opm} (h : Stp z s o s' o') {c : Nat} (hc : c ∈ s.sp) (hn : o.cell ≠ some c) : c ∈ s'.sp := by
  cases h with
  | take c2 h0 hs hz hc2 => exact List.mem_append.2 (.inl hc)
  | link c2 h0 hc2 hcs hi => exact List.mem_filter.2 ⟨hc, by simp; intro e; subst e; exact hn hc2⟩
  | give c2 h0 hc2 hcs => exact List.mem_filter.2 ⟨hc, by simp; intro e; subst e; exact hn hc2⟩
  | _ => exact hc

/-- An operation behind its step. -/
def Un.went (u : Un) (o' : Opm) (t : Nat) : Un := { u with o := o', fin := if o'.st = 3 then some t else none }

section
variable {s s' : Tb} {l : List Un} {now : Nat → Option Nat} {t z : Nat} {u : Un} {o' : Opm} {j : Nat}

/-- What a step makes of the one that goes. -/
theorem Run.step (h : Run s u) (hg : good u.x.key = true) (hs : Stp z s u.o s' o') (hl : bo s u.o < s.ch.length) (hz : s.cells.length < z) :
    (o'.st < 3 → Run s' (u.went o' t)) ∧ (¬ o'.st < 3 → Fed s' (u.went o' t)) ∧ (¬ o'.st < 3 → o'.st = 3) := by
  have hoi := h.oi.step hs hl
  have hspare : ∀ c, u.o.cell = some c → u.o.spare s = true := fun c e => by unfold Opm.spare; rw [e]; simpa using h.cell c e
  have hins := h.ins
  cases hs with
  | pass e h0 he hk =>
    refine ⟨fun _ => ⟨hoi, h.k, h.ins, h.st, h.full, h.cell, fun q => absurd (show u.o.st = 2 from q) (by omega), h.ref, fun q => absurd (show u.o.st = 1 from q) (by omega), h.lk⟩, fun q => absurd (show u.o.st < 3 from h.st) q, fun q => absurd (show u.o.st < 3 from h.st) q⟩
  | found e h0 he hk =>
    have hea := at_all (List.mem_of_getElem? he)
    cases hc : u.o.cell with
    | none =>
      have hsp : u.o.spare s = false := by unfold Opm.spare; rw [hc]
      rw [hsp] at hoi ⊢
      refine ⟨fun q => absurd q (show ¬ (3 : Nat) < 3 by decide), fun _ => ⟨rfl, rfl, fun _ => ⟨e, hea, hk.trans h.k, rfl⟩, fun q => (by cases q), fun q => (by cases q)⟩, fun _ => rfl⟩
    | some c =>
      have hsp := hspare c hc
      rw [hsp] at hoi ⊢
      have hcn : u.o.cell ≠ none := by rw [hc]; exact Option.some_ne_none c
      refine ⟨fun _ => ⟨hoi, h.k, h.ins, show (2 : Nat) < 3 by decide, h.full, h.cell, fun _ => ⟨hcn, rfl, rfl, e, hea, hk.trans h.k, rfl⟩, fun q => absurd q (show ¬ (2 : Nat) < 2 by decide), fun q => absurd q (show ¬ (2 : Nat) = 1 by decide), h.lk⟩, fun q => absurd (show (2 : Nat) < 3 by decide) q, fun q => absurd (show (2 : Nat) < 3 by decide) q⟩
  | miss h0 he =>
    by_cases hi : u.o.ins = false
    · have e1 : u.o.missed = u.o.ans 0 false 0 := by unfold Opm.missed; rw [if_pos hi]
      rw [e1] at hoi ⊢
      have hlk : u.x.look = true := by rw [hins] at hi; simpa using hi
      refine ⟨fun q => absurd q (show ¬ (3 : Nat) < 3 by decide), fun _ => ⟨rfl, rfl, fun q => (by cases q), fun _ q => absurd (show u.x.look = false from q) (by rw [hlk]; decide), fun _ _ => rfl⟩, fun _ => rfl⟩
    · have e1 : u.o.missed = { u.o with st := 1 } := by unfold Opm.missed; rw [if_neg hi, if_neg (by rw [h.full]; decide)]
      rw [e1] at hoi ⊢
      have hlk : u.x.look = false := by rw [hins] at hi; simpa using hi
      refine ⟨fun _ => ⟨hoi, h.k, h.ins, show (1 : Nat) < 3 by decide, h.full, h.cell, fun q => absurd q (show ¬ (1 : Nat) = 2 by decide), fun _ => h.ref (by omega), fun _ => hlk, h.lk⟩, fun q => absurd (show (1 : Nat) < 3 by decide) q, fun q => absurd (show (1 : Nat) < 3 by decide) q⟩
  | take c h0 hsp hz2 hc =>
    refine ⟨fun _ => ⟨hoi, h.k, h.ins, h.st, h.full, fun c2 e => ?_, fun q => absurd (show u.o.st = 2 from q) (by omega), fun q => h.ref q, fun q => h.put q, fun q => absurd (show u.x.look = true from q) (by rw [h.put h0]; decide)⟩, fun q => absurd (show u.o.st < 3 from h.st) q, fun q => absurd (show u.o.st < 3 from h.st) q⟩
    have : c = c2 := by
      have e2 : some c = some c2 := e
      exact Option.some.inj e2
    subst this
    exact List.mem_append.2 (.inr (by simp))
  | full h0 hsp hz2 => omega
  | link c h0 hc hcs hi =>
    have hlk := h.put h0
    have hr : u.o.r = u.x.ref := by rw [h.ref (by omega), if_neg (by rw [hlk]; decide)]
    refine ⟨fun q => absurd q (show ¬ (3 : Nat) < 3 by decide), fun _ => ⟨rfl, rfl, fun q => (by cases q), fun _ _ => ⟨hr, ⟨c, u.o.k, u.o.r⟩, (linked_all hl).mem_iff.2 (List.mem_append.2 (.inr (by simp))), h.k, hr⟩, fun _ q => absurd (show u.x.look = true from q) (by rw [hlk]; decide)⟩, fun _ => rfl⟩
  | late c h0 hc hcs hi =>
    refine ⟨fun _ => ⟨hoi, h.k, h.ins, show (0 : Nat) < 3 by decide, h.full, h.cell, fun q => absurd q (show ¬ (0 : Nat) = 2 by decide), fun _ => h.ref (by omega), fun q => absurd q (show ¬ (0 : Nat) = 1 by decide), h.lk⟩, fun q => absurd (show (0 : Nat) < 3 by decide) q, fun q => absurd (show (0 : Nat) < 3 by decide) q⟩
  | give c h0 hc hcs =>
    obtain ⟨_, t1, t2, e, he, t3, t4⟩ := h.two h0
    refine ⟨fun q => absurd q (show ¬ (3 : Nat) < 3 by decide), fun _ => ⟨rfl, t2, fun _ => ⟨e, he, t3, t4⟩, fun q => absurd (show u.o.had = false from q) (by rw [t1]; decide), fun q => absurd (show u.o.had = false from q) (by rw [t1]; decide)⟩, fun _ => rfl⟩

/-- Another one is where it was. -/
theorem Ui.other {v : Un} (h : Ui s t v) (hs : Stp z s u.o s' o') (hl : bo s u.o < s.ch.length) (hne : v.fin = none → ∀ c, v.o.cell = some c → u.o.cell ≠ some c) : Ui s' t v := by
  refine ⟨h.bg, h.ed, fun hf hg => ?_, fun hf hg => ?_, h.nrun, h.nfed⟩
  · have r := h.run hf hg
    refine ⟨r.oi.grown hs.hd (hs.grow hl _), r.k, r.ins, r.st, r.full, fun c e => hs.sp_keep (r.cell c e) (hne hf c e), fun q => ?_, r.ref, r.put, r.lk⟩
    obtain ⟨t0, t1, t2, e, he, t3⟩ := r.two q
    exact ⟨t0, t1, t2, e, hs.all_mono hl he, t3⟩
  · have r := h.fed hf hg
    refine ⟨r.st, r.code, fun q => ?_, fun q1 q2 => ?_, r.miss⟩
    · obtain ⟨e, he, q2⟩ := r.had q
      exact ⟨e, hs.all_mono hl he, q2⟩
    · obtain ⟨q3, e, he, q4⟩ := r.put q1 q2
      exact ⟨q3, e, hs.all_mono hl he, q4⟩
end
end Go.Proofs.YtbpihkojmbfccaaDoor
