/-
  What an operation of several comes to, step by step, without memory.
-/
import Derived.Test.YtopihgdbfhiejaaDoorSm0
set_option linter.unusedVariables false
set_option linter.unusedSimpArgs false
namespace Go.Proofs.YtopihgdbfhiejaaDoor
open Go.RowKit Go.Maps

/-- Which operation an ask is: 2 an Insert, 0 a Lookup, 1 a Next. -/
def okd (x : AskR) : Nat := if pk x.kind 3 = 0 then 2 else if pk x.kind 3 = 1 then 0 else 1
/-- Is it refused? -/
def bad (x : AskR) : Bool := !(okd x == 1) && !good x.key
theorem okd_lt (x : AskR) : okd x ≤ 2 := by unfold okd; repeat' split
                                            all_goals omega
/-- It has put its key in. -/
structure Own (s : Sl) (x : AskR) (n : Nat) : Prop where
  kd : okd x = 2
  lt : 1 ≤ n ∧ n < s.tw.length
  k : (s.at n).k = x.key
  r : (s.at n).r = x.ref
  h : (s.at n).h = hgt x.h
/-- It has found its key. -/
def Fnd (s : Sl) (x : AskR) (o : Opm) : Prop := o.had = true ∧ o.fk = x.key ∧ ∃ j, 1 ≤ j ∧ j < s.tw.length ∧ (s.at j).k = x.key ∧ (s.at j).r = o.nm
/-- One that is under way. -/
structure Run (s : Sl) (x : AskR) (o : Opm) : Prop where
  st : o.st = 1 ∨ o.st = 2 ∨ o.st = 3 ∨ o.st = 4
  oi : o.st ≠ 4 → OI s o
  k : o.k = x.key
  kd : o.kind = okd x
  gd : okd x = 2 → good x.key = true
  h : okd x = 2 → o.h = hgt x.h ∧ o.r = x.ref
  h0 : okd x ≠ 2 → o.h = 0 ∧ o.cs = [] ∧ o.tw = 0
  full : o.full = false
  code : o.code = 0
  cs : o.tw = 0 → (∀ c ∈ o.cs, c ∈ s.sp) ∧ o.cs.Nodup ∧ o.cs.length ≤ o.h
  tw : o.tw ≠ 0 → Own s x o.tw ∧ (s.at o.tw).cells = o.cs
  four : o.st = 4 → o.tw = 0 ∧ o.cs ≠ [] ∧ Fnd s x o
/-- One that is done. -/
structure Fed (s : Sl) (x : AskR) (o : Opm) : Prop where
  st : o.st = 5
  code : o.code = 0
  ans : (o.tw ≠ 0 ∧ Own s x o.tw ∧ o.had = false ∧ o.fk = x.key ∧ o.nm = x.ref) ∨ (o.tw = 0 ∧ Fnd s x o) ∨
    (o.tw = 0 ∧ okd x = 1 ∧ o.had = true ∧ (∃ j, 1 ≤ j ∧ j < s.tw.length ∧ (s.at j).k = o.fk ∧ (s.at j).r = o.nm) ∧ Blw x.key o.fk) ∨
    (o.tw = 0 ∧ okd x ≠ 2 ∧ o.had = false ∧ o.fk = .empty ∧ o.nm = 0)
/-- Nothing that is there was missed. -/
def Nm (x : AskR) (o : Opm) (k : ByteArray) : Prop := (okd x = 0 → k = x.key → o.had = true) ∧ (okd x = 1 → ¬ Blw k x.key → o.had = true ∧ ¬ Blw k o.fk)
def Seen (s : Sl) (x : AskR) (o : Opm) : Prop := ∀ j, 1 ≤ j → j < s.tw.length → Nm x o (s.at j).k

/-- A step of one that is under way. -/
inductive Sq (z : Nat) (s : Sl) (o : Opm) : Sl → Opm → Prop
  | stp (s' : Sl) (o' : Opm) (h4 : o.st ≠ 4) (hs : Stp z s o s' o') : Sq z s o s' o'
  | give (c : Nat) (rest : List Nat) (h0 : o.st = 4) (ec : o.cs = c :: rest) : Sq z s o (s.given c) { o with cs := rest, st := if rest.length = 0 then 5 else 4 }

section
variable {z : Nat} {s s' : Sl} {x : AskR} {o o' : Opm}
theorem Own.grw {n : Nat} (h : Own s x n) (g : Grw s s') : Own s' x n :=
  ⟨h.kd, ⟨h.lt.1, Nat.lt_of_lt_of_le h.lt.2 g.len⟩, by rw [g.k _ h.lt.2]; exact h.k, by rw [g.r _ h.lt.2]; exact h.r, by rw [g.h _ h.lt.2]; exact h.h⟩
theorem Fnd.grw (h : Fnd s x o) (g : Grw s s') : Fnd s' x o := by
  obtain ⟨h1, h2, j, h3, h4, h5, h6⟩ := h
  exact ⟨h1, h2, j, h3, Nat.lt_of_lt_of_le h4 g.len, by rw [g.k _ h4]; exact h5, by rw [g.r _ h4]; exact h6⟩
theorem Fed.grw (h : Fed s x o) (g : Grw s s') : Fed s' x o := by
  refine ⟨h.st, h.code, ?_⟩
  rcases h.ans with q | q | q | q
  · exact .inl ⟨q.1, q.2.1.grw g, q.2.2⟩
  · exact .inr (.inl ⟨q.1, q.2.grw g⟩)
  · obtain ⟨q1, q2, q3, ⟨j, q4, q5, q6, q7⟩, q8⟩ := q
    exact .inr (.inr (.inl ⟨q1, q2, q3, ⟨j, q4, Nat.lt_of_lt_of_le q5 g.len, by rw [g.k _ q5]; exact q6, by rw [g.r _ q5]; exact q7⟩, q8⟩))
  · exact .inr (.inr (.inr q))
theorem cells_grw (g : Grw s s') {i : Nat} (hi : i < s.tw.length) : (s'.at i).cells = (s.at i).cells := by
  unfold Tw.cells
  rw [g.h i hi, g.c i hi]
/-- Another one stays what it is. -/
theorem Run.other (h : Run s x o) (g : Grw s s') (htw : o.tw ≠ 0 → (s'.at o.tw).lk = (s.at o.tw).lk) (hcs : o.tw = 0 → ∀ c ∈ o.cs, c ∈ s'.sp) : Run s' x o :=
  ⟨h.st, fun q => (h.oi q).other g htw hcs, h.k, h.kd, h.gd, h.h, h.h0, h.full, h.code, fun q => ⟨hcs q, (h.cs q).2⟩, fun q => ⟨(h.tw q).1.grw g, by rw [cells_grw g (h.tw q).1.lt.2]; exact (h.tw q).2⟩, fun q => ⟨(h.four q).1, (h.four q).2.1, (h.four q).2.2.grw g⟩⟩
/-- The cells of one that has put its key in are spare no more. -/
theorem Run.nosp (h : Run s x o) (hnd : s.cells.Nodup) (hw : o.tw ≠ 0) : ∀ c ∈ o.cs, c ∉ s.sp := by
  intro c hc q
  obtain ⟨t1, t2⟩ := h.tw hw
  rw [← t2] at hc
  unfold Tw.cells at hc
  obtain ⟨l, hl, rfl⟩ := List.mem_map.1 hc
  exact (List.nodup_append.1 hnd).2.2 _ (cs_own t1.lt.2 (List.mem_range.1 hl)) _ q rfl
theorem ans_sp (o : Opm) (s : Sl) (i : Nat) (had : Bool) (h : ∀ c ∈ o.cs, c ∈ s.sp) : (o.ans s i had) = { o with fk := (s.at i).k, nm := (s.at i).r, had := had, st := if o.cs.length = 0 then 5 else 4 } := by
  have e : o.cs.filter (fun c => s.sp.contains c) = o.cs := List.filter_eq_self.2 (fun c hc => by simpa using h c hc)
  unfold Opm.ans Opm.owned Opm.told
  simp only [e]

theorem Run.step (h : Run s x o) (hok : s.ok) (hok' : s'.ok) (hnd : s.cells.Nodup) (hs : Sq z s o s' o') : (o'.st ≠ 5 → Run s' x o') ∧ (o'.st = 5 → Fed s' x o' ∧ Seen s' x o') := by
  cases hs with
  | give c rest h0 ec =>
    obtain ⟨f1, f2, f3⟩ := h.four h0
    obtain ⟨c1, c2, c3⟩ := h.cs f1
    have hk2 : okd x = 2 := by
      rcases Nat.lt_or_ge (okd x) 2 with q | q
      · exact absurd (h.h0 (by omega)).2.1 f2
      · have := okd_lt x; omega
    rw [ec] at c1 c2 c3
    obtain ⟨n1, n2⟩ := List.nodup_cons.1 c2
    refine ⟨fun q => ?_, fun q => ⟨⟨q, h.code, .inr (.inl ⟨f1, f3.grw (s' := s.given c) (Grw.tw rfl)⟩)⟩, fun j _ _ => ⟨fun q2 => absurd q2 (by omega), fun q2 => absurd q2 (by omega)⟩⟩⟩
    have hr : ¬ rest.length = 0 := fun e => q (by show (if rest.length = 0 then 5 else 4) = 5; rw [if_pos e])
    have e4 : (if rest.length = 0 then 5 else 4) = 4 := if_neg hr
    refine ⟨.inr (.inr (.inr e4)), fun q2 => absurd e4 q2, h.k, h.kd, h.gd, h.h, fun q2 => absurd hk2 q2, h.full, h.code, fun _ => ⟨fun c' hc' => ?_, n2, ?_⟩, fun q2 => absurd f1 q2, fun _ => ⟨f1, ?_, f3.grw (s' := s.given c) (Grw.tw rfl)⟩⟩
    · have hc2 : c' ∈ rest := hc'
      show c' ∈ s.sp.filter (fun x => !(x == c))
      exact List.mem_filter.2 ⟨c1 c' (by simp [hc2]), by simp; rintro rfl; exact n1 hc2⟩
    · show rest.length ≤ o.h
      simp at c3; omega
    · show rest ≠ []
      intro e; rw [e] at hr; exact hr rfl
  | stp s' o' h4 hs =>
    have hI := h.oi h4
    have hlv := hI.lv
    obtain ⟨p1, p2, p3⟩ := hI.pt o.lv (Nat.le_refl _) hlv
    have hto0 : too s o ≠ 0 → 1 ≤ too s o ∧ too s o < s.tw.length ∧ o.lv < (s.at (too s o)).lk := fun q => ⟨by omega, (hok.nx _ p1 _ p2 q).1, (hok.nx _ p1 _ p2 q).2.1⟩
    have hkk := okd_lt x
    cases hs with
    | leave h0 ht =>
      by_cases hw : o.tw = 0
      · by_cases hl0 : o.lv = 0
        · have hex : s.nx (o.pt o.lv) 0 = too s o := by unfold too; rw [hl0]
          have hends : ∀ x, 1 ≤ x → x < s.tw.length → Blw (s.at x).k o.k ∨ (too s o ≠ 0 ∧ ¬ Blw (s.at x).k (s.at (too s o)).k) := fun x h1 hx => by
            have q := hok.ends (k := o.k) p1 p3 x h1 hx
            rw [hex] at q
            exact q
          have hnok : ∀ x, 1 ≤ x → x < s.tw.length → (s.at x).k ≠ o.k := fun x h1 hx q => by
            rcases hends x h1 hx with q2 | ⟨q2, q3⟩
            · rw [q] at q2; exact Blw.irrefl q2
            · rw [q] at q3
              exact q3 (ht.resolve_left q2)
          have e0 : (o.seen (nmo s o)).left s (too s o) = if o.kind = 0 then (o.seen (nmo s o)).ans s 0 false else if o.kind = 1 then (o.seen (nmo s o)).ans s (too s o) (decide (too s o ≠ 0)) else { o.seen (nmo s o) with st := 2 } := by
            unfold Opm.left
            rw [if_neg (show ¬ (o.seen (nmo s o)).tw ≠ 0 from fun q => q hw), if_neg (show ¬ (o.seen (nmo s o)).lv ≠ 0 from fun q => q hl0)]
            show (if o.kind = 0 then _ else if o.kind = 1 then _ else if o.full = true then _ else _) = _
            rw [h.full]
            rfl
          rw [e0]
          by_cases k0 : o.kind = 0
          · rw [if_pos k0]
            have kd := h.kd; rw [k0] at kd
            obtain ⟨z1, z2, z3⟩ := h.h0 (by omega)
            obtain ⟨f1, f2, f3, f4, f5⟩ := ans_nil (o.seen (nmo s o)) s 0 false (fun c hc => by have hc2 : c ∈ o.cs := hc; rw [z2] at hc2; cases hc2)
            refine ⟨fun q => absurd f1 q, fun _ => ⟨⟨f1, f5.trans h.code, .inr (.inr (.inr ⟨hw, by omega, f4, by rw [f2, hok.hd.1], by rw [f3, hok.hd.2.2.2]⟩))⟩, fun j h1 hj => ⟨fun _ q => ?_, fun q => absurd q (by omega)⟩⟩⟩
            exact absurd (q.trans h.k.symm) (hnok j h1 hj)
          · rw [if_neg k0]
            by_cases k1 : o.kind = 1
            · rw [if_pos k1]
              have kd := h.kd; rw [k1] at kd
              obtain ⟨z1, z2, z3⟩ := h.h0 (by omega)
              obtain ⟨f1, f2, f3, f4, f5⟩ := ans_nil (o.seen (nmo s o)) s (too s o) (decide (too s o ≠ 0)) (fun c hc => by have hc2 : c ∈ o.cs := hc; rw [z2] at hc2; cases hc2)
              refine ⟨fun q => absurd f1 q, fun _ => ⟨⟨f1, f5.trans h.code, ?_⟩, fun j h1 hj => ⟨fun q => absurd q (by omega), fun _ q => ?_⟩⟩⟩
              · by_cases q0 : too s o = 0
                · exact .inr (.inr (.inr ⟨hw, by omega, by rw [f4, q0]; rfl, by rw [f2, q0, hok.hd.1], by rw [f3, q0, hok.hd.2.2.2]⟩))
                · have hq := hto0 q0
                  exact .inr (.inr (.inl ⟨hw, kd.symm, by rw [f4]; exact decide_eq_true q0, ⟨too s o, hq.1, hq.2.1, f2.symm, f3.symm⟩, by rw [f2, ← h.k]; exact ht.resolve_left q0⟩))
              · rcases hends j h1 hj with q2 | ⟨q2, q3⟩
                · rw [h.k] at q2; exact absurd q2 q
                · exact ⟨by rw [f4]; exact decide_eq_true q2, by rw [f2]; exact q3⟩
            · rw [if_neg k1]
              have hk2 : o.kind = 2 := by have := h.kd; omega
              have hx2 : okd x = 2 := by rw [← h.kd]; exact hk2
              refine ⟨fun _ => ⟨.inr (.inl rfl), fun _ => hI.two1 hok ht hw hl0 hk2 (by rw [h.k]; exact h.gd hx2) (h.cs hw).2.2, h.k, h.kd, h.gd, h.h, h.h0, h.full, h.code, h.cs, h.tw, fun q => absurd q (show ¬ (2 : Nat) = 4 by decide)⟩, fun q => absurd q (show ¬ (2 : Nat) = 5 by decide)⟩
        · have e0 : (o.seen (nmo s o)).left s (too s o) = { o.seen (nmo s o) with lv := o.lv - 1, pt := upd o.pt (o.lv - 1) (o.pt o.lv) } := by
            unfold Opm.left
            rw [if_neg (show ¬ (o.seen (nmo s o)).tw ≠ 0 from fun q => q hw), if_pos (show (o.seen (nmo s o)).lv ≠ 0 from hl0)]
            rfl
          rw [e0]
          refine ⟨fun _ => ⟨.inl h0, fun _ => hI.down hok h0 ht hw hl0, h.k, h.kd, h.gd, h.h, h.h0, h.full, h.code, h.cs, h.tw, fun q => absurd (show o.st = 4 from q) h4⟩, fun q => absurd (show o.st = 5 from q) (by omega)⟩
      · have e0 : (o.seen (nmo s o)).left s (too s o) = { o.seen (nmo s o) with st := 3 } := by
          unfold Opm.left
          rw [if_pos (show (o.seen (nmo s o)).tw ≠ 0 from hw)]
        rw [e0]
        refine ⟨fun _ => ⟨.inr (.inr (.inl rfl)), fun _ => hI.leave1 hok ht hw, h.k, h.kd, h.gd, h.h, h.h0, h.full, h.code, h.cs, h.tw, fun q => absurd q (show ¬ (3 : Nat) = 4 by decide)⟩, fun q => absurd q (show ¬ (3 : Nat) = 5 by decide)⟩
    | found h0 ht hk =>
      have hq := hto0 ht
      have hw : o.tw = 0 := by
        rcases Nat.eq_zero_or_pos o.tw with q | q
        · exact q
        · obtain ⟨t1, t2, t3, _⟩ := hI.tw (by omega)
          have e := hok.one _ _ t1 hq.2.1 (t2.trans hk)
          rw [← e] at hq
          omega
      obtain ⟨c1, c2, c3⟩ := h.cs hw
      have ea := ans_sp (o.seen (nmo s o)) s (too s o) true c1
      rw [ea]
      have hF : ∀ st, Fnd s x { o.seen (nmo s o) with fk := (s.at (too s o)).k, nm := (s.at (too s o)).r, had := true, st := st } := fun st => ⟨rfl, by show (s.at (too s o)).k = _; rw [← hk, h.k], too s o, hq.1, hq.2.1, by rw [← hk, h.k], rfl⟩
      refine ⟨fun q => ?_, fun q => ⟨⟨q, h.code, .inr (.inl ⟨hw, hF _⟩)⟩, fun j h1 hj => ⟨fun _ _ => rfl, fun _ q2 => ⟨rfl, ?_⟩⟩⟩⟩
      · have hl : ¬ o.cs.length = 0 := fun e => q (by show (if o.cs.length = 0 then 5 else 4) = 5; rw [if_pos e])
        have e4 : (if o.cs.length = 0 then 5 else 4) = 4 := if_neg hl
        exact ⟨.inr (.inr (.inr e4)), fun q2 => absurd e4 q2, h.k, h.kd, h.gd, h.h, h.h0, h.full, h.code, h.cs, h.tw, fun _ => ⟨hw, (fun e => hl (by show o.cs.length = 0; rw [show o.cs = [] from e]; rfl)), hF _⟩⟩
      · show ¬ Blw (s.at j).k (s.at (too s o)).k
        rw [← hk, h.k]; exact q2
    | pass h0 ht hk =>
      exact ⟨fun _ => ⟨.inl h0, fun _ => hI.pass hok h0 ht hk, h.k, h.kd, h.gd, h.h, h.h0, h.full, h.code, h.cs, h.tw, fun q => absurd (show o.st = 4 from q) h4⟩, fun q => absurd (show o.st = 5 from q) (by omega)⟩
    | take c h0 hl hz hc =>
      obtain ⟨t1, t2, t3, t4, t5⟩ := hI.two h0
      obtain ⟨c1, c2, c3⟩ := h.cs t2
      have ho := hI.take h0 hl hc
      have hk2 : okd x = 2 := by rw [← h.kd]; exact t3
      exact ⟨fun _ => ⟨.inr (.inl h0), fun _ => ho, h.k, h.kd, h.gd, h.h, fun q => absurd hk2 q, h.full, h.code, fun _ => ⟨(ho.cs t2).1, (ho.cs t2).2, by show (o.cs ++ [c]).length ≤ o.h; simp; omega⟩, fun q => absurd t2 q, fun q => absurd (show o.st = 4 from q) h4⟩, fun q => absurd (show o.st = 5 from q) (by omega)⟩
    | late h0 hl hn =>
      obtain ⟨t1, t2, t3, t4, t5⟩ := hI.two h0
      exact ⟨fun _ => ⟨.inl rfl, fun _ => hI.late t2, h.k, h.kd, h.gd, h.h, h.h0, h.full, h.code, h.cs, h.tw, fun q => absurd q (show ¬ (1 : Nat) = 4 by decide)⟩, fun q => absurd q (show ¬ (1 : Nat) = 5 by decide)⟩
    | slip h0 hn =>
      have t0 := hI.thr h0
      obtain ⟨t1, t2, t3, t4, t5, t6⟩ := hI.tw t0
      have g : Grw s (s.fset o.tw o.lv (bh s (o.pt o.lv) (o.pn o.lv) o.lv)) := Grw.fset t1 (Nat.le_of_eq t3)
      have hr := h.other g (fun _ => by rw [fset_at t1, if_pos rfl]) (fun q => absurd q t0)
      exact ⟨fun _ => ⟨.inl rfl, fun _ => hI.slip h0, h.k, h.kd, h.gd, h.h, h.h0, h.full, h.code, hr.cs, hr.tw, fun q => absurd q (show ¬ (1 : Nat) = 4 by decide)⟩, fun q => absurd q (show ¬ (1 : Nat) = 5 by decide)⟩
    | link h0 hl hn =>
      obtain ⟨t1, t2, t3, t4, t5⟩ := hI.two h0
      obtain ⟨c1, c2, c3⟩ := h.cs t2
      have hk2 : okd x = 2 := by rw [← h.kd]; exact t3
      obtain ⟨e1, e2⟩ := h.h hk2
      have hh8 := hI.h8 t3
      have p0 := (hI.pt 0 (by omega) (by decide)).1
      have g : Grw s (s.linked (o.pt 0) o.k o.r o.cs) := Grw.linked p0
      have hl2 := linked_len (s := s) (i := o.pt 0) (k := o.k) (r := o.r) (cs := o.cs)
      have hat : (s.linked (o.pt 0) o.k o.r o.cs).at s.tw.length = newT s (o.pt 0) o.k o.r o.cs := by rw [linked_at p0, if_pos rfl]
      have hn1 := hok.n1
      have hsp2 : ∀ c ∈ o.cs, c ∉ (s.linked (o.pt 0) o.k o.r o.cs).sp := fun c hc q => by
        have := (List.mem_filter.1 (show c ∈ s.sp.filter (fun c => !o.cs.contains c) from q)).2
        simp at this
        exact this hc
      have hown : Own (s.linked (o.pt 0) o.k o.r o.cs) x s.tw.length := by
        refine ⟨hk2, by rw [hl2]; omega, ?_, ?_, ?_⟩
        · rw [hat]; exact h.k
        · rw [hat]; exact e2
        · rw [hat]; show o.cs.length = _; omega
      by_cases hh : o.lv + 1 = o.h
      · have e0 : ({ o with st := 1, tw := s.tw.length } : Opm).rose (s.linked (o.pt 0) o.k o.r o.cs) = ({ o with st := 3, tw := s.tw.length, lv := o.lv + 1 } : Opm).ans (s.linked (o.pt 0) o.k o.r o.cs) s.tw.length false := by
          unfold Opm.rose
          rw [if_pos (show o.lv + 1 = o.h from hh)]
        rw [e0]
        obtain ⟨f1, f2, f3, f4, f5⟩ := ans_nil ({ o with st := 3, tw := s.tw.length, lv := o.lv + 1 } : Opm) (s.linked (o.pt 0) o.k o.r o.cs) s.tw.length false hsp2
        refine ⟨fun q => absurd f1 q, fun _ => ⟨⟨f1, f5.trans h.code, .inl ⟨(show s.tw.length ≠ 0 by omega), hown, f4, ?_, ?_⟩⟩, fun j _ _ => ⟨fun q => absurd q (by omega), fun q => absurd q (by omega)⟩⟩⟩
        · rw [f2, hat]; exact h.k
        · rw [f3, hat]; exact e2
      · have e0 : ({ o with st := 1, tw := s.tw.length } : Opm).rose (s.linked (o.pt 0) o.k o.r o.cs) = { o with st := 3, tw := s.tw.length, lv := o.lv + 1 } := by
          unfold Opm.rose
          rw [if_neg (show ¬ o.lv + 1 = o.h from hh)]
        rw [e0]
        exact ⟨fun _ => ⟨.inr (.inr (.inl rfl)), fun _ => hI.link h0 hl hn1 hh, h.k, h.kd, h.gd, h.h, fun q => absurd hk2 q, h.full, h.code, fun q => absurd q (show s.tw.length ≠ 0 by omega), fun _ => ⟨hown, by show ((s.linked (o.pt 0) o.k o.r o.cs).at s.tw.length).cells = o.cs; rw [hat]; exact newT_cells _ _ _⟩, fun q => absurd q (show ¬ (3 : Nat) = 4 by decide)⟩, fun q => absurd q (show ¬ (3 : Nat) = 5 by decide)⟩
    | raise h0 hn =>
      have t0 := hI.thr h0
      obtain ⟨t1, t2, t3, t4, t5, t6⟩ := hI.tw t0
      obtain ⟨w1, w2⟩ := h.tw t0
      have g : Grw s (s.raised (o.pt o.lv) o.tw o.lv) := Grw.raised p1 t1 t3
      have hnosp := h.nosp hnd t0
      have hown : Own (s.raised (o.pt o.lv) o.tw o.lv) x o.tw := w1.grw g
      by_cases hh : o.lv + 1 = o.h
      · have e0 : o.rose (s.raised (o.pt o.lv) o.tw o.lv) = ({ o with st := 3, lv := o.lv + 1 } : Opm).ans (s.raised (o.pt o.lv) o.tw o.lv) o.tw false := by
          unfold Opm.rose
          rw [if_pos hh]
        rw [e0]
        obtain ⟨f1, f2, f3, f4, f5⟩ := ans_nil ({ o with st := 3, lv := o.lv + 1 } : Opm) (s.raised (o.pt o.lv) o.tw o.lv) o.tw false hnosp
        refine ⟨fun q => absurd f1 q, fun _ => ⟨⟨f1, f5.trans h.code, .inl ⟨t0, hown, f4, ?_, ?_⟩⟩, fun j _ _ => ⟨fun q => absurd q (by rw [w1.kd]; decide), fun q => absurd q (by rw [w1.kd]; decide)⟩⟩⟩
        · rw [f2]; exact hown.k
        · rw [f3]; exact hown.r
      · have e0 : o.rose (s.raised (o.pt o.lv) o.tw o.lv) = { o with st := 3, lv := o.lv + 1 } := by
          unfold Opm.rose
          rw [if_neg hh]
        rw [e0]
        exact ⟨fun _ => ⟨.inr (.inr (.inl rfl)), fun _ => hI.raise hok h0 hh, h.k, h.kd, h.gd, h.h, h.h0, h.full, h.code, fun q => absurd q t0, fun _ => ⟨hown, by show ((s.raised (o.pt o.lv) o.tw o.lv).at o.tw).cells = o.cs; rw [cells_grw g t1]; exact w2⟩, fun q => absurd q (show ¬ (3 : Nat) = 4 by decide)⟩, fun q => absurd q (show ¬ (3 : Nat) = 5 by decide)⟩
/-- One that is begun. -/
theorem opA_run (hok : s.ok) (x : AskR) (hb : bad x = false) : Run s x (opA x) := by
  have hA := fun kind r h (hk2 : kind ≠ 0 → kind ≠ 1 → kind = 2) (hh : kind = 2 → good x.key = true ∧ 1 ≤ h ∧ h ≤ 8) => (Alo.start (r := r) (h := h) hok (k := x.key) hk2 hh).oi
  have hg := hgt_bd x.h
  unfold bad at hb
  simp only [Bool.and_eq_false_iff, Bool.not_eq_false', beq_iff_eq] at hb
  unfold opA
  by_cases k0 : pk x.kind 3 = 0
  · have e : okd x = 2 := by unfold okd; rw [if_pos k0]
    have g : good x.key = true := by rcases hb with q | q
                                     · omega
                                     · simpa using q
    rw [if_pos k0, if_pos g]
    exact ⟨.inl rfl, fun _ => hA 2 x.ref (hgt x.h) (fun _ _ => rfl) (fun _ => ⟨g, hg⟩), rfl, e.symm, fun _ => g, fun _ => ⟨rfl, rfl⟩, fun q => absurd e q, rfl, rfl, fun _ => ⟨fun c hc => (by cases (show c ∈ ([] : List Nat) from hc)), List.nodup_nil, Nat.zero_le _⟩, fun q => absurd rfl q, fun q => absurd q (show ¬ (1 : Nat) = 4 by decide)⟩
  · rw [if_neg k0]
    by_cases k1 : pk x.kind 3 = 1
    · have e : okd x = 0 := by unfold okd; rw [if_neg k0, if_pos k1]
      have g : good x.key = true := by rcases hb with q | q
                                       · omega
                                       · simpa using q
      rw [if_pos k1, if_pos g]
      exact ⟨.inl rfl, fun _ => hA 0 0 0 (fun q _ => absurd rfl q) (fun q => absurd q (by decide)), rfl, e.symm, fun q => absurd q (by omega), fun q => absurd q (by omega), fun _ => ⟨rfl, rfl, rfl⟩, rfl, rfl, fun _ => ⟨fun c hc => (by cases (show c ∈ ([] : List Nat) from hc)), List.nodup_nil, Nat.zero_le _⟩, fun q => absurd rfl q, fun q => absurd q (show ¬ (1 : Nat) = 4 by decide)⟩
    · have e : okd x = 1 := by unfold okd; rw [if_neg k0, if_neg k1]
      rw [if_neg k1]
      exact ⟨.inl rfl, fun _ => hA 1 0 0 (fun _ q => absurd rfl q) (fun q => absurd q (by decide)), rfl, e.symm, fun q => absurd q (by omega), fun q => absurd q (by omega), fun _ => ⟨rfl, rfl, rfl⟩, rfl, rfl, fun _ => ⟨fun c hc => (by cases (show c ∈ ([] : List Nat) from hc)), List.nodup_nil, Nat.zero_le _⟩, fun q => absurd rfl q, fun q => absurd q (show ¬ (1 : Nat) = 4 by decide)⟩
theorem opA_bad (x : AskR) (hb : bad x = true) : (opA x).st = 0 ∧ (opA x).tw = 0 ∧ (opA x).cs = [] ∧ (opA x).fk = .empty ∧ (opA x).had = false ∧ (opA x).nm = 0 := by
  unfold bad at hb
  simp only [Bool.and_eq_true, Bool.not_eq_true', beq_eq_false_iff_ne] at hb
  obtain ⟨h1, h2⟩ := hb
  have g : ¬ good x.key = true := by rw [h2]; decide
  unfold opA
  by_cases k0 : pk x.kind 3 = 0
  · rw [if_pos k0, if_neg g]; exact ⟨rfl, rfl, rfl, rfl, rfl, rfl⟩
  · rw [if_neg k0]
    by_cases k1 : pk x.kind 3 = 1
    · rw [if_pos k1, if_neg g]; exact ⟨rfl, rfl, rfl, rfl, rfl, rfl⟩
    · exact absurd (by unfold okd; rw [if_neg k0, if_neg k1]) h1
end
end Go.Proofs.YtopihgdbfhiejaaDoor
