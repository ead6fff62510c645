/-
  Operations of several workers, without memory: all that holds still holds behind a step.
-/
import Derived.Test.YtopihgdbfhiejaaDoorSm1
set_option linter.unusedVariables false
set_option linter.unusedSimpArgs false
namespace Go.Proofs.YtopihgdbfhiejaaDoor
open Go.RowKit Go.Maps

/-- An operation: what was asked, its state, its blocks, when it was begun, when it was done. -/
structure Un where
  x : AskR
  o : Opm
  b : Nat
  B : Nat → Prop
  cv : Value
  beg : Nat
  fin : Option Nat
def wkr (x : AskR) : Nat := pk x.w 4
theorem wkr_lt (x : AskR) : wkr x < 4 := pk_lt _ (by decide)
structure Ui (s : Sl) (t : Nat) (u : Un) : Prop where
  bg : u.beg ≤ t
  ed : ∀ f, u.fin = some f → u.beg ≤ f ∧ f ≤ t
  run : u.fin = none → bad u.x = false → Run s u.x u.o
  fed : u.fin.isSome = true → bad u.x = false → Fed s u.x u.o
  nrun : u.fin = none → bad u.x = true → u.o = opA u.x
  nfed : u.fin.isSome = true → bad u.x = true → u.o = { opA u.x with code := 100, st := 5 }
def Un.hh (u : Un) : Nat := if u.o.tw = 0 then 0 else hgt u.x.h
structure Ti (s : Sl) (l : List Un) (now : Nat → Option Nat) (t : Nat) : Prop where
  one : ∀ u ∈ l, Ui s t u
  nw : ∀ (w j : Nat), now w = some j → ∃ u, l[j]? = some u ∧ u.fin = none ∧ wkr u.x = w
  un : ∀ (j : Nat) (u : Un), l[j]? = some u → u.fin = none → now (wkr u.x) = some j
  inj : ∀ (i j : Nat) (u v : Un) (c : Nat), l[i]? = some u → l[j]? = some v → u.fin = none → v.fin = none → u.o.tw = 0 → v.o.tw = 0 → c ∈ u.o.cs → c ∈ v.o.cs → i = j
  sp : ∀ c ∈ s.sp, ∃ u ∈ l, u.fin = none ∧ u.o.tw = 0 ∧ c ∈ u.o.cs
  own : ∀ i, 1 ≤ i → i < s.tw.length → ∃ u ∈ l, u.o.tw = i
  uni : ∀ (i j : Nat) (u v : Un), l[i]? = some u → l[j]? = some v → u.o.tw ≠ 0 → u.o.tw = v.o.tw → i = j
  hs : ((ks s).map fun x => x.2.2).sum = 8 + (l.map Un.hh).sum
  ct : s.tw.length = 1 + (l.filter fun u => decide (u.o.tw ≠ 0)).length
  ord : ∀ u ∈ l, ∀ v ∈ l, ∀ (a b : Nat), u.fin = some a → v.fin = some b → b < a → bad u.x = false → v.o.code = 0 → v.o.fk ≠ .empty → Nm u.x u.o v.o.fk
  hb : ∀ u ∈ l, ∀ (a : Nat), u.fin = some a → u.o.code = 0 → u.o.fk ≠ .empty → ∃ v ∈ l, v.o.tw ≠ 0 ∧ v.x.key = u.o.fk ∧ v.beg ≤ a

theorem opA_tw (x : AskR) : (opA x).tw = 0 ∧ (opA x).cs = [] := by
  unfold opA opS opN
  repeat' split
  all_goals exact ⟨rfl, rfl⟩
theorem sum_set : ∀ (l : List Nat) (j x : Nat), j < l.length → (l.set j x).sum + l.getD j 0 = l.sum + x
  | [], j, x, h => by simp at h
  | y :: ys, 0, x, h => by simp; omega
  | y :: ys, j + 1, x, h => by
    have := sum_set ys j x (by simpa using h)
    simp only [List.set_cons_succ, List.sum_cons, List.getD_cons_succ]
    omega
theorem set_get {l : List Un} {j i : Nat} {u0 u v : Un} (hj : l[j]? = some u) (h : (l.set j u0)[i]? = some v) : (i = j ∧ v = u0) ∨ (i ≠ j ∧ l[i]? = some v) := by
  have hjl := (List.getElem?_eq_some_iff.1 hj).1
  rw [List.getElem?_set] at h
  by_cases e : j = i
  · rw [if_pos e, if_pos hjl] at h
    exact .inl ⟨e.symm, (Option.some.inj h).symm⟩
  · rw [if_neg e] at h
    exact .inr ⟨fun q => e q.symm, h⟩
theorem set_mem {l : List Un} {j : Nat} {u0 u v : Un} (hj : l[j]? = some u) (h : v ∈ l.set j u0) : v = u0 ∨ ∃ i, i ≠ j ∧ l[i]? = some v := by
  obtain ⟨i, hi⟩ := List.getElem?_of_mem h
  rcases set_get hj hi with ⟨_, e⟩ | ⟨e, h1⟩
  · exact .inl e
  · exact .inr ⟨i, e, h1⟩
theorem set_new {l : List Un} {j : Nat} {u0 u : Un} (hj : l[j]? = some u) : (l.set j u0)[j]? = some u0 := by
  have hjl := (List.getElem?_eq_some_iff.1 hj).1
  rw [List.getElem?_set, if_pos rfl, if_pos hjl]
theorem set_old {l : List Un} {j i : Nat} {u0 v : Un} (hi : i ≠ j) (h : l[i]? = some v) : (l.set j u0)[i]? = some v := by
  rw [List.getElem?_set, if_neg (fun q => hi q.symm)]; exact h
theorem filter_set {p : Un → Bool} : ∀ {l : List Un} {j : Nat} {u0 u : Un}, l[j]? = some u → ((l.set j u0).filter p).length + (if p u = true then 1 else 0) = (l.filter p).length + (if p u0 = true then 1 else 0)
  | [], j, u0, u, hj => by simp at hj
  | y :: ys, 0, u0, u, hj => by
    simp at hj; subst hj
    simp only [List.set_cons_zero, List.filter_cons]
    cases p u0 <;> cases p y <;> simp
  | y :: ys, j + 1, u0, u, hj => by
    have := filter_set (p := p) (l := ys) (j := j) (u0 := u0) (u := u) (by simpa using hj)
    simp only [List.set_cons_succ, List.filter_cons]
    split
    · simp only [List.length_cons]; omega
    · exact this
theorem hh_set {l : List Un} {j : Nat} {u0 u : Un} (hj : l[j]? = some u) : ((l.set j u0).map Un.hh).sum + u.hh = (l.map Un.hh).sum + u0.hh := by
  have hjl := (List.getElem?_eq_some_iff.1 hj).1
  have := sum_set (l.map Un.hh) j u0.hh (by simpa using hjl)
  rw [← List.map_set] at this
  have e : (l.map Un.hh).getD j 0 = u.hh := by simp [List.getD, List.getElem?_map, hj]
  omega

section
variable {z : Nat} {s s' : Sl} {x : AskR} {o o' : Opm}
theorem Sq.grw (h : Run s x o) (hs : Sq z s o s' o') : Grw s s' := by
  cases hs with
  | give c rest h0 ec => exact Grw.tw rfl
  | stp s' o' h4 hs => exact hs.grw (h.oi h4)
theorem Sq.lk (h : Run s x o) (hs : Sq z s o s' o') {i : Nat} (hi : i < s.tw.length) (hne : i ≠ o.tw) : (s'.at i).lk = (s.at i).lk := by
  cases hs with
  | give c rest h0 ec => rfl
  | stp s' o' h4 hs =>
    have hI := h.oi h4
    cases hs with
    | link h0 =>
      have p0 := (hI.pt 0 (by rw [(hI.two h0).1]; exact Nat.le_refl _) (by decide)).1
      exact (linked_old p0 hi).2.1
    | raise h0 =>
      obtain ⟨t1, _⟩ := hI.tw (hI.thr h0)
      exact ((raised_old (hI.pt o.lv (Nat.le_refl _) hI.lv).1 t1 i).2.1 hne).1
    | slip h0 =>
      obtain ⟨t1, _⟩ := hI.tw (hI.thr h0)
      rw [fset_at t1, if_neg hne]
    | leave => rfl
    | found => rfl
    | pass => rfl
    | take c => rfl
    | late => rfl
theorem Sq.sp_keep (h : Run s x o) (hs : Sq z s o s' o') {c : Nat} (hc : c ∈ s.sp) (hn : o.tw = 0 → c ∉ o.cs) : c ∈ s'.sp := by
  cases hs with
  | give c2 rest h0 ec =>
    have := hn (h.four h0).1
    rw [ec] at this
    exact List.mem_filter.2 ⟨hc, by simp; rintro rfl; exact this (by simp)⟩
  | stp s' o' h4 hs =>
    have hI := h.oi h4
    cases hs with
    | take c2 h0 hs hz hc2 => exact List.mem_append.2 (.inl hc)
    | link h0 => exact List.mem_filter.2 ⟨hc, by simpa using hn (hI.two h0).2.1⟩
    | leave => exact hc
    | found => exact hc
    | pass => exact hc
    | late => exact hc
    | raise => exact hc
    | slip => exact hc
theorem ks_fset {j l y : Nat} : ks (s.fset j l y) = ks s := by
  unfold ks Sl.fset
  exact ks_set rfl
theorem ans_tw (o : Opm) (s : Sl) (i : Nat) (had : Bool) : (o.ans s i had).tw = o.tw := rfl
theorem rose_tw (o : Opm) (s : Sl) : (o.rose s).tw = o.tw := by
  unfold Opm.rose; split <;> rfl
theorem left_tw (o : Opm) (s : Sl) (g : Nat) : (o.left s g).tw = o.tw := by
  unfold Opm.left; repeat' split
  all_goals rfl
theorem Sq.ks (h : Run s x o) (hs : Sq z s o s' o') : (o'.tw = o.tw ∧ ks s' = ks s ∧ s'.tw.length = s.tw.length) ∨ (o.tw = 0 ∧ o'.tw = s.tw.length ∧ Go.Proofs.YtopihgdbfhiejaaDoor.ks s' = Go.Proofs.YtopihgdbfhiejaaDoor.ks s ++ [(x.key, x.ref, hgt x.h)] ∧ s'.tw.length = s.tw.length + 1 ∧ okd x = 2) := by
  cases hs with
  | give c2 rest h0 ec => exact .inl ⟨rfl, rfl, rfl⟩
  | stp s' o' h4 hs =>
    have hI := h.oi h4
    cases hs with
    | take c2 => exact .inl ⟨rfl, rfl, rfl⟩
    | link h0 hl =>
      obtain ⟨t1, t2, t3, t4, t5⟩ := hI.two h0
      have hk2 : okd x = 2 := by rw [← h.kd]; exact t3
      obtain ⟨e1, e2⟩ := h.h hk2
      refine .inr ⟨t2, by rw [rose_tw], ?_, linked_len, hk2⟩
      rw [ks_linked, h.k, e2, hl, e1]
    | leave => exact .inl ⟨left_tw _ _ _, rfl, rfl⟩
    | found => exact .inl ⟨rfl, rfl, rfl⟩
    | pass => exact .inl ⟨rfl, rfl, rfl⟩
    | late => exact .inl ⟨rfl, rfl, rfl⟩
    | raise => exact .inl ⟨rose_tw _ _, ks_raised, raised_len⟩
    | slip => exact .inl ⟨rfl, ks_fset, fset_len⟩
/-- Whose a spare cell is. -/
theorem Sq.spl (h : Run s x o) (hs : Sq z s o s' o') {c : Nat} (hc : c ∈ s'.sp) : (c ∈ s.sp ∧ (o.tw = 0 → c ∈ o.cs → o'.st ≠ 5 ∧ o'.tw = 0 ∧ c ∈ o'.cs)) ∨ (o'.st ≠ 5 ∧ o'.tw = 0 ∧ c ∈ o'.cs) := by
  cases hs with
  | give c2 rest h0 ec =>
    have q := List.mem_filter.1 hc
    refine .inl ⟨q.1, fun t hcs => ?_⟩
    rw [ec] at hcs
    have hr : c ∈ rest := by
      rcases List.mem_cons.1 hcs with e | e
      · have := q.2; rw [e] at this; simp at this
      · exact e
    have hl : ¬ rest.length = 0 := fun e => by rw [List.length_eq_zero_iff.1 e] at hr; cases hr
    exact ⟨by show (if rest.length = 0 then 5 else 4) ≠ 5; rw [if_neg hl]; decide, t, hr⟩
  | stp s' o' h4 hs =>
    have hI := h.oi h4
    cases hs with
    | take c2 h0 =>
      obtain ⟨t1, t2, t3, t4, t5⟩ := hI.two h0
      rcases List.mem_append.1 hc with q | q
      · exact .inl ⟨q, fun t hcs => ⟨by show o.st ≠ 5; omega, t, List.mem_append.2 (.inl hcs)⟩⟩
      · exact .inr ⟨by show o.st ≠ 5; omega, t2, List.mem_append.2 (.inr q)⟩
    | link h0 =>
      have q := List.mem_filter.1 hc
      exact .inl ⟨q.1, fun _ hcs => absurd hcs (by simpa using q.2)⟩
    | leave h0 ht =>
      refine .inl ⟨hc, fun t hcs => ?_⟩
      have hk2 : o.kind = 2 := by
        by_cases q : okd x = 2
        · rw [h.kd]; exact q
        · rw [(h.h0 q).2.1] at hcs; cases hcs
      have e0 : (o.seen (nmo s o)).left s (too s o) = if o.lv ≠ 0 then { o.seen (nmo s o) with lv := o.lv - 1, pt := upd o.pt (o.lv - 1) (o.pt o.lv) } else { o.seen (nmo s o) with st := 2 } := by
        unfold Opm.left
        rw [if_neg (show ¬ (o.seen (nmo s o)).tw ≠ 0 from fun q => q t)]
        show (if o.lv ≠ 0 then _ else if o.kind = 0 then _ else if o.kind = 1 then _ else if o.full = true then _ else _) = _
        rw [h.full, hk2]
        rfl
      rw [e0]
      split
      · exact ⟨by show o.st ≠ 5; omega, t, hcs⟩
      · exact ⟨by show (2 : Nat) ≠ 5; decide, t, hcs⟩
    | found h0 ht hk =>
      refine .inl ⟨hc, fun t hcs => ?_⟩
      rw [ans_sp (o.seen (nmo s o)) s (too s o) true (h.cs t).1]
      have hl : ¬ o.cs.length = 0 := fun e => by rw [List.length_eq_zero_iff.1 e] at hcs; cases hcs
      exact ⟨by show (if o.cs.length = 0 then 5 else 4) ≠ 5; rw [if_neg hl]; decide, t, hcs⟩
    | pass h0 => exact .inl ⟨hc, fun t hcs => ⟨by show o.st ≠ 5; omega, t, hcs⟩⟩
    | late h0 => exact .inl ⟨hc, fun t hcs => ⟨by show (1 : Nat) ≠ 5; decide, t, hcs⟩⟩
    | raise h0 => exact .inl ⟨hc, fun t => absurd t (hI.thr h0)⟩
    | slip h0 => exact .inl ⟨hc, fun t => absurd t (hI.thr h0)⟩
/-- Which cells it has behind its step. -/
theorem Sq.csl (h : Run s x o) (hs : Sq z s o s' o') {c : Nat} (ht : o'.tw = 0) (hc : c ∈ o'.cs) : o.tw = 0 ∧ (c ∈ o.cs ∨ c ∉ s.cells) := by
  have hk := hs.ks h
  have htw : o.tw = 0 := by
    rcases hk with q | q
    · rw [← q.1]; exact ht
    · exact q.1
  refine ⟨htw, ?_⟩
  cases hs with
  | give c2 rest h0 ec => left; rw [ec]; exact List.mem_cons_of_mem _ hc
  | stp s' o' h4 hs =>
    have hI := h.oi h4
    cases hs with
    | take c2 h0 _ _ hc2 =>
      rcases List.mem_append.1 hc with q | q
      · exact .inl q
      · simp at q; subst q; exact .inr hc2
    | link h0 hl hn =>
      rw [rose_tw] at ht
      have : s.tw.length = 0 := ht
      have := (hI.pt 0 (by rw [(hI.two h0).1]; exact Nat.le_refl _) (by decide)).1
      omega
    | leave h0 =>
      left
      have : ∀ c, c ∈ ((o.seen (nmo s o)).left s (too s o)).cs → c ∈ o.cs := by
        intro c hc
        unfold Opm.left at hc
        split at hc
        · exact hc
        · split at hc
          · exact hc
          · split at hc
            · exact (List.mem_filter.1 hc).1
            · split at hc
              · exact (List.mem_filter.1 hc).1
              · split at hc
                · exact (List.mem_filter.1 hc).1
                · exact hc
      exact this c hc
    | found h0 => exact .inl (List.mem_filter.1 hc).1
    | pass h0 => exact .inl hc
    | late h0 => exact .inl hc
    | raise h0 => exact absurd htw (hI.thr h0)
    | slip h0 => exact .inl hc
theorem Fed.key (h : Fed s x o) (hf : o.fk ≠ .empty) : ∃ j, 1 ≤ j ∧ j < s.tw.length ∧ (s.at j).k = o.fk := by
  rcases h.ans with q | q | q | q
  · exact ⟨o.tw, q.2.1.lt.1, q.2.1.lt.2, by rw [q.2.1.k, q.2.2.2.1]⟩
  · obtain ⟨_, _, h2, j, h3, h4, h5, h6⟩ := q
    exact ⟨j, h3, h4, by rw [h5, h2]⟩
  · obtain ⟨_, _, _, ⟨j, h3, h4, h5, h6⟩, _⟩ := q
    exact ⟨j, h3, h4, h5⟩
  · exact absurd q.2.2.2.1 hf
end

/-- An operation behind its step. -/
def Un.went (u : Un) (o' : Opm) (B' : Nat → Prop) (cv' : Value) (t : Nat) : Un := { u with o := o', B := B', cv := cv', fin := if o'.st = 5 then some t else none }
/-- Who is under way behind a step. -/
def nowS (now : Nat → Option Nat) (u : Un) (o' : Opm) : Nat → Option Nat := fun w => if w = wkr u.x ∧ o'.st = 5 then none else now w

section
variable {s s' : Sl} {l : List Un} {now : Nat → Option Nat} {t z : Nat} {u : Un} {o' : Opm} {j : Nat} {B' : Nat → Prop} {cv' : Value}
theorem Ti.start : Ti s0 [] (fun _ => none) 0 := by
  refine ⟨?_, ?_, ?_, ?_, ?_, ?_, ?_, ?_, ?_, ?_, ?_⟩
  · intro u hu; cases hu
  · intro w j h; cases h
  · intro j u h; simp at h
  · intro i j u v c h; simp at h
  · intro c hc; simp [s0] at hc
  · intro i h1 h2; simp [s0] at h2; omega
  · intro i j u v h; simp at h
  · rfl
  · rfl
  · intro u hu; cases hu
  · intro u hu; cases hu
theorem Ui.later {t' : Nat} (h : Ui s t u) (ht : t ≤ t') : Ui s t' u :=
  ⟨by have := h.bg; omega, fun f e => by have := h.ed f e; omega, h.run, h.fed, h.nrun, h.nfed⟩
theorem Ti.later {t' : Nat} (h : Ti s l now t) (ht : t ≤ t') : Ti s l now t' :=
  ⟨fun u hu => (h.one u hu).later ht, h.nw, h.un, h.inj, h.sp, h.own, h.uni, h.hs, h.ct, h.ord, h.hb⟩
theorem Ui.owns (h : Ui s t u) (hw : u.o.tw ≠ 0) : Own s u.x u.o.tw := by
  cases hb : bad u.x with
  | true =>
    cases hf : u.fin with
    | none => rw [h.nrun hf hb] at hw; exact absurd (opA_tw u.x).1 hw
    | some f =>
      rw [h.nfed (by rw [hf]; rfl) hb] at hw
      exact absurd (opA_tw u.x).1 hw
  | false =>
    cases hf : u.fin with
    | none => exact ((h.run hf hb).tw hw).1
    | some f =>
      rcases (h.fed (by rw [hf]; rfl) hb).ans with q | q | q | q
      · exact q.2.1
      · exact absurd q.1 hw
      · exact absurd q.1 hw
      · exact absurd q.1 hw
theorem Ui.good0 (h : Ui s t u) (hf : u.fin.isSome = true) (hc : u.o.code = 0) : bad u.x = false := by
  cases hb : bad u.x with
  | false => rfl
  | true =>
    rw [h.nfed hf hb] at hc
    have : (100 : Int) = 0 := hc
    omega

theorem Ti.step (h : Ti s l now t) (hj : l[j]? = some u) (hf : u.fin = none) (hg : bad u.x = false) (hs : Sq z s u.o s' o') (hok : s.ok) (hok' : s'.ok) (hnd : s.cells.Nodup) (hlt : ∀ v ∈ l, ∀ b, v.fin = some b → b < t) :
    Ti s' (l.set j (u.went o' B' cv' t)) (nowS now u o') t := by
  have hu := h.one u (List.mem_of_getElem? hj)
  have hr := hu.run hf hg
  obtain ⟨S1, S2⟩ := hr.step hok hok' hnd hs
  have g := hs.grw hr
  have hnow := h.un j u hj hf
  have hfin : (u.went o' B' cv' t).fin = if o'.st = 5 then some t else none := rfl
  have hks := hs.ks hr
  have hother : ∀ i v, i ≠ j → l[i]? = some v → Ui s' t v := fun i v hi hv => by
    have hvu := h.one v (List.mem_of_getElem? hv)
    refine ⟨hvu.bg, hvu.ed, fun hfv hgv => ?_, fun hfv hgv => (hvu.fed hfv hgv).grw g, hvu.nrun, hvu.nfed⟩
    have rv := hvu.run hfv hgv
    refine rv.other g (fun q => hs.lk hr (rv.tw q).1.lt.2 (fun e => hi (h.uni i j v u hv hj q e))) (fun q c hc => hs.sp_keep hr ((rv.cs q).1 c hc) (fun q2 q3 => hi (h.inj i j v u c hv hj hfv hf q q2 hc q3)))
  have hown : Ui s' t (u.went o' B' cv' t) := by
    refine ⟨hu.bg, fun f e => ?_, fun e _ => ?_, fun e _ => ?_, fun _ q => absurd (show bad u.x = true from q) (by rw [hg]; decide), fun _ q => absurd (show bad u.x = true from q) (by rw [hg]; decide)⟩
    · rw [hfin] at e
      split at e
      · cases e; exact ⟨hu.bg, Nat.le_refl _⟩
      · cases e
    · rw [hfin] at e
      split at e
      · cases e
      · rename_i h3; exact S1 h3
    · rw [hfin] at e
      split at e
      · rename_i h3; exact (S2 h3).1
      · cases e
  have hall : ∀ v ∈ l.set j (u.went o' B' cv' t), Ui s' t v := fun v hv => by
    rcases set_mem hj hv with e | ⟨i, hi, h1⟩
    · rw [e]; exact hown
    · exact hother i v hi h1
  have hkeep : ∀ v ∈ l, ∃ v' ∈ l.set j (u.went o' B' cv' t), v'.x = v.x ∧ v'.beg = v.beg ∧ (v.o.tw ≠ 0 → v'.o.tw = v.o.tw) := fun v hv => by
    obtain ⟨i, hi⟩ := List.getElem?_of_mem hv
    by_cases e : i = j
    · subst e
      rw [hj] at hi; cases hi
      refine ⟨_, List.mem_of_getElem? (set_new hj), rfl, rfl, fun q => ?_⟩
      rcases hks with k | k
      · exact k.1
      · exact absurd k.1 q
    · exact ⟨v, List.mem_of_getElem? (set_old e hi), rfl, rfl, fun _ => rfl⟩
  have hown2 : ∀ i, 1 ≤ i → i < s'.tw.length → ∃ v ∈ l.set j (u.went o' B' cv' t), v.o.tw = i := fun i h1 hi => by
    rcases hks with ⟨k1, k2, k3⟩ | ⟨k1, k2, k3, k4, k5⟩
    · obtain ⟨v, hv, hw⟩ := h.own i h1 (by omega)
      obtain ⟨v', hv', _, _, q⟩ := hkeep v hv
      exact ⟨v', hv', by rw [q (by omega), hw]⟩
    · by_cases e : i = s.tw.length
      · exact ⟨_, List.mem_of_getElem? (set_new hj), k2.trans e.symm⟩
      · obtain ⟨v, hv, hw⟩ := h.own i h1 (by omega)
        obtain ⟨v', hv', _, _, q⟩ := hkeep v hv
        exact ⟨v', hv', by rw [q (by omega), hw]⟩
  refine ⟨hall, fun w i hi => ?_, fun i v hi hfv => ?_, fun a b v y c ha hb hfv hfy tv ty hcv hcy => ?_, fun c hc => ?_, hown2, fun a b v y ha hb hv he => ?_, ?_, ?_, fun v hv y hy a b ha hb hab hgv hcy hfy => ?_, fun v hv a ha hcv hfv => ?_⟩
  · unfold nowS at hi
    split at hi
    · cases hi
    · rename_i hn
      obtain ⟨v, h1, h2, h3⟩ := h.nw w i hi
      by_cases e : i = j
      · subst e
        rw [hj] at h1; cases h1
        refine ⟨_, set_new hj, ?_, h3⟩
        rw [hfin, if_neg (fun q => hn ⟨h3.symm, q⟩)]
      · exact ⟨v, set_old e h1, h2, h3⟩
  · rcases set_get hj hi with ⟨e1, e2⟩ | ⟨e1, e2⟩
    · subst e1 e2
      have hn3 : ¬ o'.st = 5 := fun q => by rw [hfin, if_pos q] at hfv; cases hfv
      unfold nowS
      rw [if_neg (fun q => hn3 q.2)]
      exact hnow
    · have hv := h.un i v e2 hfv
      unfold nowS
      rw [if_neg]
      · exact hv
      · rintro ⟨q, -⟩
        rw [q, hnow] at hv
        exact e1 (Option.some.inj hv).symm
  · have hcell : ∀ i v, l[i]? = some v → i ≠ j → v.fin = none → v.o.tw = 0 → c ∈ v.o.cs → o'.tw = 0 → c ∈ o'.cs → False := fun i v hv hi hfv tv hcv t2 hc2 => by
      obtain ⟨q1, q2⟩ := hs.csl hr t2 hc2
      rcases q2 with q | q
      · exact hi (h.inj i j v u c hv hj hfv hf tv q1 hcv q)
      · have hvu := h.one v (List.mem_of_getElem? hv)
        cases hgx : bad v.x with
        | false => exact q (sp_cells (((hvu.run hfv hgx).cs tv).1 c hcv))
        | true => rw [hvu.nrun hfv hgx, (opA_tw v.x).2] at hcv; cases hcv
    rcases set_get hj ha with ⟨e1, e2⟩ | ⟨e1, e2⟩ <;> rcases set_get hj hb with ⟨e3, e4⟩ | ⟨e3, e4⟩
    · rw [e1, e3]
    · subst e2
      exact (hcell b y e4 e3 hfy ty hcy tv hcv).elim
    · subst e4
      exact (hcell a v e2 e1 hfv tv hcv ty hcy).elim
    · exact h.inj a b v y c e2 e4 hfv hfy tv ty hcv hcy
  · have hnew : (o'.st ≠ 5 ∧ o'.tw = 0 ∧ c ∈ o'.cs) → ∃ v ∈ l.set j (u.went o' B' cv' t), v.fin = none ∧ v.o.tw = 0 ∧ c ∈ v.o.cs := fun q => ⟨_, List.mem_of_getElem? (set_new hj), by rw [hfin, if_neg q.1], q.2⟩
    rcases hs.spl hr hc with ⟨q1, q2⟩ | q
    · obtain ⟨v, hv, h1, h2, h3⟩ := h.sp c q1
      obtain ⟨i, hi⟩ := List.getElem?_of_mem hv
      by_cases e : i = j
      · subst e
        rw [hj] at hi; cases hi
        exact hnew (q2 h2 h3)
      · exact ⟨v, List.mem_of_getElem? (set_old e hi), h1, h2, h3⟩
    · exact hnew q
  · rcases set_get hj ha with ⟨e1, e2⟩ | ⟨e1, e2⟩ <;> rcases set_get hj hb with ⟨e3, e4⟩ | ⟨e3, e4⟩
    · rw [e1, e3]
    · subst e2
      have he : o'.tw = y.o.tw := he
      have hw : o'.tw ≠ 0 := hv
      have hyl := ((h.one y (List.mem_of_getElem? e4)).owns (by rw [← he]; exact hw)).lt.2
      rcases hks with k | k
      · rw [k.1] at he hw
        exact absurd (h.uni b j y u e4 hj (by rw [← he]; exact hw) he.symm) e3
      · omega
    · subst e4
      have he : v.o.tw = o'.tw := he
      have hvl := ((h.one v (List.mem_of_getElem? e2)).owns hv).lt.2
      rcases hks with k | k
      · rw [k.1] at he
        exact absurd (h.uni a j v u e2 hj hv he) e1
      · omega
    · exact h.uni a b v y e2 e4 hv he
  · have h1 := h.hs
    have h2 := hh_set (u0 := u.went o' B' cv' t) hj
    rcases hks with ⟨k1, k2, k3⟩ | ⟨k1, k2, k3, k4, k5⟩
    · rw [k2]
      have : (u.went o' B' cv' t).hh = u.hh := by show (if o'.tw = 0 then 0 else hgt u.x.h) = if u.o.tw = 0 then 0 else hgt u.x.h; rw [k1]
      omega
    · rw [k3, List.map_append, List.sum_append]
      have e1 : u.hh = 0 := by show (if u.o.tw = 0 then 0 else hgt u.x.h) = 0; rw [if_pos k1]
      have hn1 := hok.n1
      have e2 : (u.went o' B' cv' t).hh = hgt u.x.h := by show (if o'.tw = 0 then 0 else hgt u.x.h) = _; rw [if_neg (by omega)]
      simp only [List.map_cons, List.map_nil, List.sum_cons, List.sum_nil]
      omega
  · have h1 := h.ct
    have h2 := filter_set (p := fun u : Un => decide (u.o.tw ≠ 0)) (u0 := u.went o' B' cv' t) hj
    have hn1 := hok.n1
    rcases hks with ⟨k1, k2, k3⟩ | ⟨k1, k2, k3, k4, k5⟩
    · have : decide ((u.went o' B' cv' t).o.tw ≠ 0) = decide (u.o.tw ≠ 0) := by rw [show (u.went o' B' cv' t).o.tw = u.o.tw from k1]
      rw [this] at h2
      omega
    · rw [if_neg (by simp [k1]), if_pos (by show decide (o'.tw ≠ 0) = true; rw [k2]; exact decide_eq_true (by omega))] at h2
      omega
  · rcases set_mem hj hv with e1 | ⟨i1, e1, h1⟩ <;> rcases set_mem hj hy with e2 | ⟨i2, e2, h2⟩
    · subst e1 e2; rw [ha] at hb; cases hb; omega
    · subst e1
      rw [hfin] at ha
      split at ha
      · rename_i h3
        have hys := hother i2 y e2 h2
        obtain ⟨jx, q1, q2, q3⟩ := (hys.fed (by rw [hb]; rfl) (hys.good0 (by rw [hb]; rfl) hcy)).key hfy
        have := (S2 h3).2 jx q1 q2
        rw [q3] at this
        exact this
      · cases ha
    · subst e2
      have hd := hlt v (List.mem_of_getElem? h1) a ha
      rw [hfin] at hb
      split at hb
      · cases hb; omega
      · cases hb
    · exact h.ord v (List.mem_of_getElem? h1) y (List.mem_of_getElem? h2) a b ha hb hab hgv hcy hfy
  · rcases set_mem hj hv with e1 | ⟨i1, e1, h1⟩
    · subst e1
      rw [hfin] at ha
      split at ha
      · rename_i h3
        cases ha
        obtain ⟨jx, q1, q2, q3⟩ := (S2 h3).1.key hfv
        obtain ⟨y, hy, hw⟩ := hown2 jx q1 q2
        have ho := (hall y hy).owns (by omega)
        exact ⟨y, hy, by omega, by rw [← ho.k, hw, q3]; rfl, (hall y hy).bg⟩
      · cases ha
    · obtain ⟨y, hy, q1, q2, q3⟩ := h.hb v (List.mem_of_getElem? h1) a ha hcv hfv
      obtain ⟨y', hy', r1, r2, r3⟩ := hkeep y hy
      exact ⟨y', hy', by rw [r3 q1]; exact q1, by rw [r1]; exact q2, by rw [r2]; exact q3⟩

/-- A step of one that is refused. -/
theorem Ti.stepBad (h : Ti s l now t) (hj : l[j]? = some u) (hf : u.fin = none) (hg : bad u.x = true) : Ti s (l.set j (u.went { u.o with code := 100, st := 5 } B' cv' t)) (nowS now u { u.o with code := 100, st := 5 }) t := by
  obtain ⟨u0, hu0⟩ : ∃ u0, u0 = u.went { u.o with code := 100, st := 5 } B' cv' t := ⟨_, rfl⟩
  have f0 : u0.fin = some t := by rw [hu0]; rfl
  have x0 : u0.x = u.x := by rw [hu0]; rfl
  have b0 : u0.beg = u.beg := by rw [hu0]; rfl
  have c0 : u0.o.code = 100 := by rw [hu0]; rfl
  have hu := h.one u (List.mem_of_getElem? hj)
  have huo := hu.nrun hf hg
  have w0 : u0.o.tw = 0 := by rw [hu0]; show u.o.tw = 0; rw [huo]; exact (opA_tw u.x).1
  have w1 : u.o.tw = 0 := by rw [huo]; exact (opA_tw u.x).1
  have hnow := h.un j u hj hf
  rw [← hu0]
  have hkeep : ∀ v ∈ l, v.o.tw ≠ 0 → v ∈ l.set j u0 := fun v hv hw => by
    obtain ⟨i, hi⟩ := List.getElem?_of_mem hv
    have : i ≠ j := fun e => by subst e; rw [hj] at hi; cases hi; exact hw w1
    exact List.mem_of_getElem? (set_old this hi)
  refine ⟨fun v hv => ?_, fun w i hi => ?_, fun i v hi hfv => ?_, fun a b v y c ha hb hfv hfy tv ty hcv hcy => ?_, fun c hc => ?_, fun i h1 hi => ?_, fun a b v y ha hb hv he => ?_, ?_, ?_, fun v hv y hy a b ha hb hab hgv hcy hfy => ?_, fun v hv a ha hcv hfv => ?_⟩
  · rcases set_mem hj hv with e | ⟨i, hi, h1⟩
    · subst e
      refine ⟨by rw [b0]; exact hu.bg, fun f e => ?_, fun e => (by rw [f0] at e; cases e), fun _ q => absurd (show bad v.x = false from q) (by rw [x0, hg]; decide), fun e => (by rw [f0] at e; cases e), fun _ _ => ?_⟩
      · rw [f0] at e; cases e
        exact ⟨by rw [b0]; exact hu.bg, Nat.le_refl _⟩
      · rw [hu0]; show ({ u.o with code := 100, st := 5 } : Opm) = { opA u.x with code := 100, st := 5 }; rw [huo]
    · exact h.one v (List.mem_of_getElem? h1)
  · unfold nowS at hi
    split at hi
    · cases hi
    · rename_i hn
      obtain ⟨v, h1, h2, h3⟩ := h.nw w i hi
      by_cases e : i = j
      · subst e
        rw [hj] at h1; cases h1
        exact absurd ⟨h3.symm, rfl⟩ hn
      · exact ⟨v, set_old e h1, h2, h3⟩
  · rcases set_get hj hi with ⟨e1, e2⟩ | ⟨e1, e2⟩
    · rw [e2, f0] at hfv; cases hfv
    · have hv := h.un i v e2 hfv
      unfold nowS
      rw [if_neg]
      · exact hv
      · rintro ⟨q, -⟩
        rw [q, hnow] at hv
        exact e1 (Option.some.inj hv).symm
  · rcases set_get hj ha with ⟨e1, e2⟩ | ⟨e1, e2⟩
    · rw [e2, f0] at hfv; cases hfv
    · rcases set_get hj hb with ⟨e3, e4⟩ | ⟨e3, e4⟩
      · rw [e4, f0] at hfy; cases hfy
      · exact h.inj a b v y c e2 e4 hfv hfy tv ty hcv hcy
  · obtain ⟨v, hv, h1, h2, h3⟩ := h.sp c hc
    obtain ⟨i, hi⟩ := List.getElem?_of_mem hv
    have : i ≠ j := fun e => by
      subst e
      rw [hj] at hi; cases hi
      rw [huo, (opA_tw u.x).2] at h3; cases h3
    exact ⟨v, List.mem_of_getElem? (set_old this hi), h1, h2, h3⟩
  · obtain ⟨v, hv, hw⟩ := h.own i h1 hi
    exact ⟨v, hkeep v hv (by omega), hw⟩
  · rcases set_get hj ha with ⟨e1, e2⟩ | ⟨e1, e2⟩
    · rw [e2, w0] at hv; exact absurd rfl hv
    · rcases set_get hj hb with ⟨e3, e4⟩ | ⟨e3, e4⟩
      · rw [e4, w0] at he; exact absurd he hv
      · exact h.uni a b v y e2 e4 hv he
  · have h1 := h.hs
    have h2 := hh_set (u0 := u0) hj
    have e1 : u.hh = 0 := by show (if u.o.tw = 0 then 0 else _) = 0; rw [if_pos w1]
    have e2 : u0.hh = 0 := by show (if u0.o.tw = 0 then 0 else _) = 0; rw [if_pos w0]
    omega
  · have h1 := h.ct
    have h2 := filter_set (p := fun u : Un => decide (u.o.tw ≠ 0)) (u0 := u0) hj
    rw [if_neg (by simp [w1]), if_neg (by simp [w0])] at h2
    omega
  · rcases set_mem hj hv with e1 | ⟨i1, e1, h1⟩
    · rw [e1, x0, hg] at hgv; cases hgv
    · rcases set_mem hj hy with e2 | ⟨i2, e2, h2⟩
      · rw [e2, c0] at hcy; omega
      · exact h.ord v (List.mem_of_getElem? h1) y (List.mem_of_getElem? h2) a b ha hb hab hgv hcy hfy
  · rcases set_mem hj hv with e1 | ⟨i1, e1, h1⟩
    · rw [e1, c0] at hcv; omega
    · obtain ⟨y, hy, q1, q2, q3⟩ := h.hb v (List.mem_of_getElem? h1) a ha hcv hfv
      exact ⟨y, hkeep y hy q1, q1, q2, q3⟩

/-- A new operation. -/
theorem Ti.begun (h : Ti s l now t) (hok : s.ok) {x : AskR} {b : Nat} {B : Nat → Prop} {cv : Value} (hw : now (wkr x) = none) (hnw : ∀ w j, now w = some j → j < l.length) :
    Ti s (l ++ [⟨x, opA x, b, B, cv, t, none⟩]) (fun w => if w = wkr x then some l.length else now w) t := by
  obtain ⟨u0, hu0⟩ : ∃ u : Un, u = ⟨x, opA x, b, B, cv, t, none⟩ := ⟨_, rfl⟩
  have f0 : u0.fin = none := by rw [hu0]
  have x0 : u0.x = x := by rw [hu0]
  have o0 : u0.o = opA x := by rw [hu0]
  have w0 : u0.o.tw = 0 := by rw [o0]; exact (opA_tw x).1
  have c0 : u0.o.cs = [] := by rw [o0]; exact (opA_tw x).2
  rw [← hu0]
  have hmem : ∀ u, u ∈ l ++ [u0] ↔ u ∈ l ∨ u = u0 := fun u => by simp
  have hget : ∀ j u, (l ++ [u0])[j]? = some u → l[j]? = some u ∨ (j = l.length ∧ u = u0) := fun j u hj => by
    rw [List.getElem?_append] at hj
    split at hj
    · exact .inl hj
    · rename_i hlt
      have : j - l.length = 0 := by
        rcases Nat.eq_zero_or_pos (j - l.length) with q | q
        · exact q
        · rw [List.getElem?_eq_none (by simp; omega)] at hj; cases hj
      rw [this] at hj
      simp at hj
      exact .inr ⟨by omega, hj.symm⟩
  refine ⟨fun u hu => ?_, fun w j hj => ?_, fun j u hj hf => ?_, fun i j u v c hi hj hf hg tu tv hc hd => ?_, fun c hc => ?_, fun i h1 hi => ?_, fun i j u v hi hj hv he => ?_, ?_, ?_, fun u hu v hv a b' ha hb' hab hg hc hfk => ?_, fun u hu a ha hc hfk => ?_⟩
  · rcases (hmem u).1 hu with h1 | h1
    · exact h.one u h1
    · subst h1
      refine ⟨by rw [hu0]; exact Nat.le_refl _, fun f e => (by rw [f0] at e; cases e), fun _ hg => ?_, fun e => (by rw [f0] at e; cases e), fun _ hg => ?_, fun e => (by rw [f0] at e; cases e)⟩
      · rw [x0] at hg; rw [x0, o0]; exact opA_run hok x hg
      · rw [x0, o0]
  · by_cases e : w = wkr x
    · rw [if_pos e] at hj
      cases hj
      exact ⟨u0, by simp, f0, by rw [x0, e]⟩
    · rw [if_neg e] at hj
      obtain ⟨u, h1, h2⟩ := h.nw w j hj
      exact ⟨u, by rw [List.getElem?_append_left (hnw w j hj)]; exact h1, h2⟩
  · rcases hget j u hj with h1 | ⟨h1, h2⟩
    · have := h.un j u h1 hf
      rw [if_neg]
      · exact this
      · intro e; rw [e, hw] at this; cases this
    · rw [h2, x0, if_pos rfl, h1]
  · rcases hget i u hi with h1 | ⟨h1, h2⟩
    · rcases hget j v hj with h3 | ⟨h3, h4⟩
      · exact h.inj i j u v c h1 h3 hf hg tu tv hc hd
      · rw [h4, c0] at hd; cases hd
    · rw [h2, c0] at hc; cases hc
  · obtain ⟨u, hu, h1⟩ := h.sp c hc
    exact ⟨u, (hmem u).2 (.inl hu), h1⟩
  · obtain ⟨u, hu, h2⟩ := h.own i h1 hi
    exact ⟨u, (hmem u).2 (.inl hu), h2⟩
  · rcases hget i u hi with h1 | ⟨h1, h2⟩
    · rcases hget j v hj with h3 | ⟨h3, h4⟩
      · exact h.uni i j u v h1 h3 hv he
      · rw [h4, w0] at he; exact absurd he hv
    · rw [h2, w0] at hv; exact absurd rfl hv
  · rw [List.map_append, List.sum_append]
    have : u0.hh = 0 := by show (if u0.o.tw = 0 then 0 else _) = 0; rw [if_pos w0]
    simp [this]; exact h.hs
  · rw [List.filter_append, List.length_append]
    have : ([u0].filter fun u => decide (u.o.tw ≠ 0)) = [] := by simp [w0]
    rw [this]; simpa using h.ct
  · rcases (hmem u).1 hu with h1 | h1
    · rcases (hmem v).1 hv with h2 | h2
      · exact h.ord u h1 v h2 a b' ha hb' hab hg hc hfk
      · rw [h2, f0] at hb'; cases hb'
    · rw [h1, f0] at ha; cases ha
  · rcases (hmem u).1 hu with h1 | h1
    · obtain ⟨v, hv, h2⟩ := h.hb u h1 a ha hc hfk
      exact ⟨v, (hmem v).2 (.inl hv), h2⟩
    · rw [h1, f0] at ha; cases ha
/-- How many cells are taken at most. -/
theorem nodup_leN : ∀ (ss M : List Nat), ss.Nodup → (∀ x ∈ ss, x ∈ M) → ss.length ≤ M.length := by
  intro ss
  induction ss with
  | nil => intro M _ _; exact Nat.zero_le _
  | cons y ys ih =>
    intro M hn hs
    obtain ⟨n1, n2⟩ := List.nodup_cons.1 hn
    have hy := hs y (by simp)
    have := ih (M.erase y) n2 (fun x hx => (List.mem_erase_of_ne (fun q => n1 (by rw [← q]; exact hx))).2 (hs x (by simp [hx])))
    rw [List.length_erase_of_mem hy] at this
    have := List.length_pos_of_mem hy
    simp only [List.length_cons]
    omega
theorem Ti.room (h : Ti s l now t) (hnd : s.cells.Nodup) : s.cells.length ≤ 8 + 8 * l.length := by
  rw [cells_len, h.hs]
  have h3 : s.sp.length ≤ (l.flatMap fun u => if u.o.tw = 0 ∧ u.fin = none then u.o.cs else []).length := nodup_leN _ _ (List.nodup_append.1 hnd).2.1 (fun c hc => by
    obtain ⟨u, hu, h1, h2, h3⟩ := h.sp c hc
    exact List.mem_flatMap.2 ⟨u, hu, by rw [if_pos ⟨h2, h1⟩]; exact h3⟩)
  have key : ∀ l : List Un, (∀ u ∈ l, Ui s t u) → (l.map Un.hh).sum + (l.flatMap fun u => if u.o.tw = 0 ∧ u.fin = none then u.o.cs else []).length ≤ 8 * l.length := by
    intro l
    induction l with
    | nil => intro _; simp
    | cons u l ih =>
      intro ha
      have h1 := ih (fun v hv => ha v (by simp [hv]))
      have hu := ha u (by simp)
      rw [List.map_cons, List.sum_cons, List.flatMap_cons, List.length_append, List.length_cons]
      have hg := hgt_bd u.x.h
      have : u.hh + (if u.o.tw = 0 ∧ u.fin = none then u.o.cs else []).length ≤ 8 := by
        unfold Un.hh
        by_cases q : u.o.tw = 0
        · rw [if_pos q]
          by_cases q2 : u.fin = none
          · rw [if_pos ⟨q, q2⟩]
            cases hb : bad u.x with
            | true => rw [hu.nrun q2 hb, (opA_tw u.x).2]; simp
            | false =>
              have hr := hu.run q2 hb
              have := (hr.cs q).2.2
              by_cases k : okd u.x = 2
              · have := (hr.h k).1; omega
              · rw [(hr.h0 k).2.1]; simp
          · rw [if_neg (fun c => q2 c.2)]; simp
        · rw [if_neg q, if_neg (fun c => q c.1)]; simp; omega
      omega
  have := key l h.one
  omega
end
end Go.Proofs.YtopihgdbfhiejaaDoor
