/-
  A step of one of several operations: all that holds still holds.
-/
import Derived.Test.YtbpihkojmbfccaaDoorHd1
set_option linter.unusedVariables false
set_option linter.unusedSimpArgs false
namespace Go.Proofs.YtbpihkojmbfccaaDoor
open Go.RowKit Go.Maps Go.Sort

theorem set_get {l : List Un} {j i : Nat} {u0 u v : Un} (hj : l[j]? = some u) (h : (l.set j u0)[i]? = some v) : (i = j ∧ v = u0) ∨ (i ≠ j ∧ l[i]? = some v) := by
  have hjl := (List.getElem?_eq_some_iff.1 hj).1
  rw [List.getElem?_set] at h
  by_cases e : j = i
  · rw [if_pos e, if_pos hjl] at h
    exact .inl ⟨e.symm, (Option.some.inj h).symm⟩
  · rw [if_neg e] at h
    exact .inr ⟨fun q => e q.symm, h⟩
theorem set_mem {l : List Un} {j : Nat} {u0 u v : Un} (hj : l[j]? = some u) (h : v ∈ l.set j u0) : v = u0 ∨ ∃ i, i ≠ j ∧ l[i]? = some v := by
  obtain ⟨i, hi⟩ := List.getElem?_of_mem h
  rcases set_get hj hi with ⟨_, e⟩ | ⟨e, h1⟩
  · exact .inl e
  · exact .inr ⟨i, e, h1⟩
theorem set_new {l : List Un} {j : Nat} {u0 u : Un} (hj : l[j]? = some u) : (l.set j u0)[j]? = some u0 := by
  have hjl := (List.getElem?_eq_some_iff.1 hj).1
  rw [List.getElem?_set, if_pos rfl, if_pos hjl]
theorem set_old {l : List Un} {j i : Nat} {u0 v : Un} (hi : i ≠ j) (h : l[i]? = some v) : (l.set j u0)[i]? = some v := by
  rw [List.getElem?_set, if_neg (fun q => hi q.symm)]; exact h
theorem filter_set {l : List Un} {j : Nat} {u0 u : Un} (hj : l[j]? = some u) (hf : u.fin = none) : ((l.set j u0).filter fun v => v.fin.isSome).length = (l.filter fun v => v.fin.isSome).length + (if u0.fin.isSome = true then 1 else 0) := by
  induction l generalizing j with
  | nil => simp at hj
  | cons y ys ih =>
    cases j with
    | zero =>
      simp at hj; subst hj
      simp only [List.set_cons_zero, List.filter_cons, hf]
      cases h : u0.fin with
      | none => simp
      | some f => simp
    | succ j =>
      have := ih (j := j) (by simpa using hj)
      simp only [List.set_cons_succ, List.filter_cons]
      split
      · simp only [List.length_cons]; omega
      · exact this

section
variable {s s' : Tb} {l : List Un} {now : Nat → Option Nat} {t z : Nat} {u : Un} {o' : Opm} {j : Nat}

/-- Who is under way behind a step. -/
def nowS (now : Nat → Option Nat) (u : Un) (o' : Opm) : Nat → Option Nat := fun w => if w = wkr u.x.w ∧ o'.st = 3 then none else now w

theorem Ti.step (h : Ti s l now t) (hj : l[j]? = some u) (hf : u.fin = none) (hg : good u.x.key = true) (hs : Stp z s u.o s' o') (hl : bo s u.o < s.ch.length) (hz : s.cells.length < z) (hhome : ∀ e ∈ s.all, e ∈ s.at (bkt s.hd.length e.k)) (hcells : ∀ c ∈ s.sp, c ∈ s.cells) :
    Ti s' (l.set j (u.went o' t)) (nowS now u o') t := by
  have hu := h.one u (List.mem_of_getElem? hj)
  have hr := hu.run hf hg
  obtain ⟨S1, S2, S3⟩ := hr.step (t := t) hg hs hl hz
  have hnow := h.un j u hj hf
  have hother : ∀ i v, i ≠ j → l[i]? = some v → Ui s' t v := fun i v hi hv => (h.one v (List.mem_of_getElem? hv)).other hs hl (fun hfv c hc q => hi (h.inj i j v u c hv hj hfv hf hc q))
  have hfin : (u.went o' t).fin = if o'.st = 3 then some t else none := rfl
  have hown : Ui s' t (u.went o' t) := by
    refine ⟨hu.bg, fun f e => ?_, fun e _ => ?_, fun e _ => ?_, fun _ q => absurd (show good u.x.key = false from q) (by rw [hg]; decide), fun _ q => absurd (show good u.x.key = false from q) (by rw [hg]; decide)⟩
    · rw [hfin] at e
      split at e
      · cases e; exact ⟨hu.bg, Nat.le_refl _⟩
      · cases e
    · rw [hfin] at e
      split at e
      · cases e
      · rename_i h3
        exact S1 (by
          rcases Nat.lt_or_ge o'.st 3 with q | q
          · exact q
          · exact absurd (S3 (by omega)) h3)
    · rw [hfin] at e
      split at e
      · rename_i h3; exact S2 (by omega)
      · cases e
  -- a key that this one does not find is not there
  have hkey : u.o.st ≠ 2 → o'.st = 3 → o'.had = false → ∀ e ∈ s.all, e.k ≠ u.x.key := by
    intro q2 q3 q4 e he hk
    have hin := hhome e he
    have hbo : bo s u.o = bkt s.hd.length e.k := by unfold bo; rw [hr.k, hk]
    cases hs with
    | pass e2 h0 => have := hr.st; simp at q3; omega
    | found e2 h0 he2 hk2 => cases q4
    | miss h0 hp =>
      have := hr.oi.no e
      rw [take_all hp, hbo] at this
      exact this hin (by rw [hk, hr.k])
    | take c h0 => have := hr.st; simp at q3; omega
    | full h0 _ hz2 => omega
    | link c h0 hc hcs hp =>
      have := hr.oi.no e
      rw [take_all hp, hbo] at this
      exact this hin (by rw [hk, hr.k])
    | late c h0 => cases q3
    | give c h0 => exact q2 h0
  have hhad2 : u.o.st = 2 → o'.st = 3 → o'.had = true := by
    intro q2 _
    cases hs with
    | give c h0 => exact (hr.two h0).2.1
    | pass e2 h0 => omega
    | found e2 h0 => omega
    | miss h0 => omega
    | take c h0 => omega
    | full h0 => omega
    | link c h0 => omega
    | late c h0 => omega
  have hnokey : o'.st = 3 → o'.had = false → ∀ e ∈ s.all, e.k ≠ u.x.key := fun q3 q4 => hkey (fun q2 => by rw [hhad2 q2 q3] at q4; cases q4) q3 q4
  have hlink : ∀ e ∈ s'.all, e ∈ s.all ∨ (o'.st = 3 ∧ o'.had = false ∧ u.x.look = false ∧ e.k = u.x.key ∧ e.r = u.x.ref) := by
    intro e he
    cases hs with
    | link c h0 hc hcs hp =>
      rcases List.mem_append.1 ((linked_all hl).mem_iff.1 he) with q | q
      · exact .inl q
      · simp at q
        subst q
        have hlk := hr.put h0
        exact .inr ⟨rfl, rfl, hlk, hr.k, by show u.o.r = _; rw [hr.ref (by omega), if_neg (by rw [hlk]; decide)]⟩
    | _ => exact .inl he
  have hlen : s'.all.length ≤ s.all.length + (if o'.st = 3 then 1 else 0) := by
    cases hs with
    | link c h0 hc hcs hp =>
      rw [(linked_all hl).length_eq]
      simp [Opm.ans]
    | pass => exact Nat.le_add_right _ _
    | found => exact Nat.le_add_right _ _
    | miss => exact Nat.le_add_right _ _
    | take => exact Nat.le_add_right _ _
    | full => exact Nat.le_add_right _ _
    | late => exact Nat.le_add_right _ _
    | give => exact Nat.le_add_right _ _
  have hended : ∀ v ∈ l, v.fin.isSome = true → v ∈ l.set j (u.went o' t) := fun v hv hfv => by
    obtain ⟨i, hi⟩ := List.getElem?_of_mem hv
    have : i ≠ j := fun e => by subst e; rw [hj] at hi; cases hi; rw [hf] at hfv; cases hfv
    exact List.mem_of_getElem? (set_old this hi)
  have hputs : (u.went o' t).puts → o'.st = 3 ∧ o'.had = false := fun q => by
    have := q.1
    rw [hfin] at this
    split at this
    · rename_i h3; exact ⟨h3, q.2.2.2⟩
    · cases this
  -- one that has put its key in, or found it, has it in the table
  have hthere : ∀ v ∈ l, v.fin.isSome = true → good v.x.key = true → (v.x.look = false ∨ v.o.had = true) → ∃ e ∈ s.all, e.k = v.x.key := fun v hv hfv hgv hq => by
    have r := (h.one v hv).fed hfv hgv
    cases hh : v.o.had with
    | true => obtain ⟨e, he, q, _⟩ := r.had hh; exact ⟨e, he, q⟩
    | false =>
      rcases hq with q | q
      · obtain ⟨_, e, he, q2, _⟩ := r.put hh q; exact ⟨e, he, q2⟩
      · rw [hh] at q; cases q
  refine ⟨fun v hv => ?_, fun w i hi => ?_, fun i v hi hfv => ?_, fun a b v x c ha hb hfv hfx hcv hcx => ?_, fun c hc => ?_, ?_, fun e he => ?_, fun a b v x ha hb hpv hpx hk => ?_, fun v hv x hx a b ha hb hgv hk hh ho => ?_, fun v hv a ha hgv hh => ?_⟩
  · rcases set_mem hj hv with e | ⟨i, hi, h1⟩
    · rw [e]; exact hown
    · exact hother i v hi h1
  · unfold nowS at hi
    split at hi
    · cases hi
    · rename_i hn
      obtain ⟨v, h1, h2, h3⟩ := h.nw w i hi
      by_cases e : i = j
      · subst e
        rw [hj] at h1; cases h1
        refine ⟨_, set_new hj, ?_, h3⟩
        rw [hfin, if_neg (fun q => hn ⟨h3.symm, q⟩)]
      · exact ⟨v, set_old e h1, h2, h3⟩
  · rcases set_get hj hi with ⟨e1, e2⟩ | ⟨e1, e2⟩
    · subst e1 e2
      have hn3 : ¬ o'.st = 3 := fun q => by rw [hfin, if_pos q] at hfv; cases hfv
      unfold nowS
      rw [if_neg (fun q => hn3 q.2)]
      exact hnow
    · have hv := h.un i v e2 hfv
      unfold nowS
      rw [if_neg]
      · exact hv
      · rintro ⟨q, -⟩
        rw [q, hnow] at hv
        exact e1 (Option.some.inj hv).symm
  · have hcell : ∀ c, (u.went o' t).fin = none → o'.cell = some c → u.o.cell = some c ∨ c ∉ s.cells := by
      intro c hfn hc
      have hn3 : ¬ o'.st = 3 := fun q => by rw [hfin, if_pos q] at hfn; cases hfn
      cases hs with
      | take c2 h0 h1 h2 h3 => right; have : c2 = c := Option.some.inj hc; subst this; exact h3
      | full h0 => cases hc
      | pass => exact .inl hc
      | found => exact .inl hc
      | miss =>
        left
        unfold Opm.missed at hc
        split at hc
        · exact hc
        · split at hc <;> exact hc
      | link => exact absurd rfl hn3
      | late => exact .inl hc
      | give => exact absurd rfl hn3
    rcases set_get hj ha with ⟨e1, e2⟩ | ⟨e1, e2⟩ <;> rcases set_get hj hb with ⟨e3, e4⟩ | ⟨e3, e4⟩
    · rw [e1, e3]
    · subst e2
      rcases hcell c hfv hcv with q | q
      · exact absurd (h.inj b j x u c e4 hj hfx hf hcx q) e3
      · have hx := h.one x (List.mem_of_getElem? e4)
        cases hgx : good x.x.key with
        | true => exact absurd (hcells c ((hx.run hfx hgx).cell c hcx)) q
        | false => rw [(hx.nrun hfx hgx).2.2] at hcx; cases hcx
    · subst e4
      rcases hcell c hfx hcx with q | q
      · exact absurd (h.inj a j v u c e2 hj hfv hf hcv q) e1
      · have hx := h.one v (List.mem_of_getElem? e2)
        cases hgx : good v.x.key with
        | true => exact absurd (hcells c ((hx.run hfv hgx).cell c hcv)) q
        | false => rw [(hx.nrun hfv hgx).2.2] at hcv; cases hcv
    · exact h.inj a b v x c e2 e4 hfv hfx hcv hcx
  · -- whose a spare cell is
    have hold : ∀ c, c ∈ s.sp → (u.o.cell = some c → (u.went o' t).fin = none ∧ o'.cell = some c) → ∃ v ∈ l.set j (u.went o' t), v.fin = none ∧ v.o.cell = some c := fun c hc hq => by
      obtain ⟨v, hv, h1, h2⟩ := h.sp c hc
      obtain ⟨i, hi⟩ := List.getElem?_of_mem hv
      by_cases e : i = j
      · subst e
        rw [hj] at hi; cases hi
        obtain ⟨q1, q2⟩ := hq h2
        exact ⟨_, List.mem_of_getElem? (set_new hj), q1, q2⟩
      · exact ⟨v, List.mem_of_getElem? (set_old e hi), h1, h2⟩
    have hst := hr.st
    cases hs with
    | take c2 h0 h1 h2 h3 =>
      have hn : (u.went { u.o with cell := some c2 } t).fin = none := by show (if u.o.st = 3 then some t else none) = none; rw [if_neg (by omega)]
      have hsp0 : ∀ c, u.o.cell ≠ some c := fun c q => by
        have : u.o.spare s = true := by unfold Opm.spare; rw [q]; simpa using hr.cell c q
        rw [this] at h1; cases h1
      rcases List.mem_append.1 hc with q | q
      · exact hold c q (fun q2 => absurd q2 (hsp0 c))
      · simp at q
        subst q
        exact ⟨_, List.mem_of_getElem? (set_new hj), hn, rfl⟩
    | link c2 h0 hc2 hcs hp =>
      have q := List.mem_filter.1 hc
      exact hold c q.1 (fun q2 => by rw [hc2] at q2; cases q2; simp at q)
    | give c2 h0 hc2 hcs =>
      have q := List.mem_filter.1 hc
      exact hold c q.1 (fun q2 => by rw [hc2] at q2; cases q2; simp at q)
    | pass e2 h0 =>
      exact hold c hc (fun q => ⟨by show (if u.o.st = 3 then some t else none) = none; rw [if_neg (by omega)], q⟩)
    | found e2 h0 he2 hk2 =>
      refine hold c hc (fun q => ?_)
      have hsp : u.o.spare s = true := by unfold Opm.spare; rw [q]; simpa using hr.cell c q
      refine ⟨?_, q⟩
      show (if (if u.o.spare s = true then 2 else 3) = 3 then some t else none) = none
      rw [hsp]; rfl
    | miss h0 hp =>
      refine hold c hc (fun q => ?_)
      -- a Lookup has no cell
      by_cases hi : u.o.ins = false
      · have hlk : u.x.look = true := by have := hr.ins; rw [this] at hi; simpa using hi
        rw [hr.lk hlk] at q
        cases q
      · have e1 : u.o.missed = { u.o with st := 1 } := by unfold Opm.missed; rw [if_neg hi, if_neg (by rw [hr.full]; decide)]
        rw [e1]
        exact ⟨rfl, q⟩
    | full h0 _ hz2 => omega
    | late c2 h0 => exact hold c hc (fun q => ⟨rfl, q⟩)
  · rw [filter_set hj hf]
    have h1 := h.en
    have : (if (u.went o' t).fin.isSome = true then 1 else 0) = (if o'.st = 3 then 1 else 0) := by
      rw [hfin]
      by_cases q : o'.st = 3
      · rw [if_pos q, if_pos q]; rfl
      · rw [if_neg q, if_neg q]; rfl
    omega
  · rcases hlink e he with q | ⟨q1, q2, q3, q4, q5⟩
    · obtain ⟨v, hv, h1, h2⟩ := h.put e q
      exact ⟨v, hended v hv h1.1, h1, h2⟩
    · exact ⟨_, List.mem_of_getElem? (set_new hj), ⟨by rw [hfin, if_pos q1]; rfl, hg, q3, q2⟩, q4.symm, q5.symm⟩
  · rcases set_get hj ha with ⟨e1, e2⟩ | ⟨e1, e2⟩ <;> rcases set_get hj hb with ⟨e3, e4⟩ | ⟨e3, e4⟩
    · rw [e1, e3]
    · subst e2
      obtain ⟨q1, q2⟩ := hputs hpv
      obtain ⟨e, he, q3⟩ := hthere x (List.mem_of_getElem? e4) hpx.1 hpx.2.1 (.inl hpx.2.2.1)
      exact absurd (q3.trans hk.symm) (hnokey q1 q2 e he)
    · subst e4
      obtain ⟨q1, q2⟩ := hputs hpx
      obtain ⟨e, he, q3⟩ := hthere v (List.mem_of_getElem? e2) hpv.1 hpv.2.1 (.inl hpv.2.2.1)
      exact absurd (q3.trans hk) (hnokey q1 q2 e he)
    · exact h.uni a b v x e2 e4 hpv hpx hk
  · rcases set_mem hj hv with e1 | ⟨i1, e1, h1⟩ <;> rcases set_mem hj hx with e2 | ⟨i2, e2, h2⟩
    · subst e1 e2; rw [ha] at hb; cases hb; exact Nat.le_refl _
    · subst e1
      rw [hfin] at ha
      split at ha
      · rename_i h3
        obtain ⟨e, he, q3⟩ := hthere x (List.mem_of_getElem? h2) (by rw [hb]; rfl) (by rw [← hk]; exact hgv) ho
        exact absurd (q3.trans hk.symm) (hnokey h3 hh e he)
      · cases ha
    · subst e2
      rw [hfin] at hb
      split at hb
      · cases hb
        exact ((h.one v (List.mem_of_getElem? h1)).ed a ha).2
      · cases hb
    · exact h.ord v (List.mem_of_getElem? h1) x (List.mem_of_getElem? h2) a b ha hb hgv hk hh ho
  · rcases set_mem hj hv with e1 | ⟨i1, e1, h1⟩
    · subst e1
      have h3 : o'.st = 3 ∧ a = t := by
        rw [hfin] at ha
        split at ha
        · rename_i h3; cases ha; exact ⟨h3, rfl⟩
        · cases ha
      have r := hown.fed (by rw [hfin, if_pos h3.1]; rfl) hg
      obtain ⟨e, he, q1, q2⟩ := r.had hh
      have hes : e ∈ s.all := by
        rcases hlink e he with q | q
        · exact q
        · have := q.2.1; rw [show o'.had = true from hh] at this; cases this
      obtain ⟨x, hx, hp, hk, _⟩ := h.put e hes
      exact ⟨x, hended x hx hp.1, hk.trans q1, hp.2.2.1, by rw [h3.2]; exact (h.one x hx).bg⟩
    · obtain ⟨x, hx, q1, q2, q3⟩ := h.hb v (List.mem_of_getElem? h1) a ha hgv hh
      obtain ⟨i2, hi2⟩ := List.getElem?_of_mem hx
      by_cases e : i2 = j
      · subst e
        rw [hj] at hi2; cases hi2
        exact ⟨_, List.mem_of_getElem? (set_new hj), q1, q2, q3⟩
      · exact ⟨x, List.mem_of_getElem? (set_old e hi2), q1, q2, q3⟩

/-- A step of one whose key is none. -/
theorem Ti.stepBad (h : Ti s l now t) (hj : l[j]? = some u) (hf : u.fin = none) (hg : good u.x.key = false) : Ti s (l.set j (u.went (u.o.ans 0 false 90) t)) (nowS now u (u.o.ans 0 false 90)) t := by
  obtain ⟨u0, hu0⟩ : ∃ u0, u0 = u.went (u.o.ans 0 false 90) t := ⟨_, rfl⟩
  have f0 : u0.fin = some t := by rw [hu0]; rfl
  have x0 : u0.x = u.x := by rw [hu0]; rfl
  have g0 : good u0.x.key = false := by rw [x0]; exact hg
  have b0 : u0.beg = u.beg := by rw [hu0]; rfl
  have hu := h.one u (List.mem_of_getElem? hj)
  have hnow := h.un j u hj hf
  rw [← hu0]
  have hended : ∀ v ∈ l, v.fin.isSome = true → v ∈ l.set j u0 := fun v hv hfv => by
    obtain ⟨i, hi⟩ := List.getElem?_of_mem hv
    have : i ≠ j := fun e => by subst e; rw [hj] at hi; cases hi; rw [hf] at hfv; cases hfv
    exact List.mem_of_getElem? (set_old this hi)
  have hnp : ¬ u0.puts := fun q => by have := q.2.1; rw [g0] at this; cases this
  refine ⟨fun v hv => ?_, fun w i hi => ?_, fun i v hi hfv => ?_, fun a b v x c ha hb hfv hfx hcv hcx => ?_, fun c hc => ?_, ?_, fun e he => ?_, fun a b v x ha hb hpv hpx hk => ?_, fun v hv x hx a b ha hb hgv hk hh ho => ?_, fun v hv a ha hgv hh => ?_⟩
  · rcases set_mem hj hv with e | ⟨i, hi, h1⟩
    · subst e
      refine ⟨by rw [b0]; exact hu.bg, fun f e => ?_, fun e => (by rw [f0] at e; cases e), fun _ q => (by rw [g0] at q; cases q), fun e => (by rw [f0] at e; cases e), fun _ _ => by rw [hu0]; exact ⟨rfl, rfl⟩⟩
      rw [f0] at e; cases e
      exact ⟨by rw [b0]; exact hu.bg, Nat.le_refl _⟩
    · exact h.one v (List.mem_of_getElem? h1)
  · unfold nowS at hi
    split at hi
    · cases hi
    · rename_i hn
      obtain ⟨v, h1, h2, h3⟩ := h.nw w i hi
      by_cases e : i = j
      · subst e
        rw [hj] at h1; cases h1
        exact absurd ⟨h3.symm, rfl⟩ hn
      · exact ⟨v, set_old e h1, h2, h3⟩
  · rcases set_get hj hi with ⟨e1, e2⟩ | ⟨e1, e2⟩
    · rw [e2, f0] at hfv; cases hfv
    · have hv := h.un i v e2 hfv
      unfold nowS
      rw [if_neg]
      · exact hv
      · rintro ⟨q, -⟩
        rw [q, hnow] at hv
        exact e1 (Option.some.inj hv).symm
  · rcases set_get hj ha with ⟨e1, e2⟩ | ⟨e1, e2⟩
    · rw [e2, f0] at hfv; cases hfv
    · rcases set_get hj hb with ⟨e3, e4⟩ | ⟨e3, e4⟩
      · rw [e4, f0] at hfx; cases hfx
      · exact h.inj a b v x c e2 e4 hfv hfx hcv hcx
  · obtain ⟨v, hv, h1, h2⟩ := h.sp c hc
    obtain ⟨i, hi⟩ := List.getElem?_of_mem hv
    have : i ≠ j := fun e => by
      subst e
      rw [hj] at hi; cases hi
      rw [(hu.nrun hf hg).2.2] at h2; cases h2
    exact ⟨v, List.mem_of_getElem? (set_old this hi), h1, h2⟩
  · rw [filter_set hj hf]; have := h.en; omega
  · obtain ⟨v, hv, h1, h2⟩ := h.put e he
    exact ⟨v, hended v hv h1.1, h1, h2⟩
  · rcases set_get hj ha with ⟨e1, e2⟩ | ⟨e1, e2⟩
    · exact absurd (e2 ▸ hpv) hnp
    · rcases set_get hj hb with ⟨e3, e4⟩ | ⟨e3, e4⟩
      · exact absurd (e4 ▸ hpx) hnp
      · exact h.uni a b v x e2 e4 hpv hpx hk
  · rcases set_mem hj hv with e1 | ⟨i1, e1, h1⟩
    · rw [e1, g0] at hgv; cases hgv
    · rcases set_mem hj hx with e2 | ⟨i2, e2, h2⟩
      · rw [hk, e2, g0] at hgv; cases hgv
      · exact h.ord v (List.mem_of_getElem? h1) x (List.mem_of_getElem? h2) a b ha hb hgv hk hh ho
  · rcases set_mem hj hv with e1 | ⟨i1, e1, h1⟩
    · rw [e1, g0] at hgv; cases hgv
    · obtain ⟨x, hx, q1, q2, q3⟩ := h.hb v (List.mem_of_getElem? h1) a ha hgv hh
      obtain ⟨i2, hi2⟩ := List.getElem?_of_mem hx
      by_cases e : i2 = j
      · subst e
        rw [hj] at hi2; cases hi2
        rw [q1, hgv] at hg; cases hg
      · exact ⟨x, List.mem_of_getElem? (set_old e hi2), q1, q2, q3⟩
end
end Go.Proofs.YtbpihkojmbfccaaDoor
