/-
  Sm0: Several operations of a list, without memory: what a step leaves of the list, and of where the others are.
  Sm1: What an operation of several comes to, step by step, without memory.
  Sm2: Operations of several workers, without memory: all that holds still holds behind a step.
  Sm3: How many steps are to come: a measure that falls with every step that links nothing.
-/
import Derived.Test.YtopihgdbfhiejaaDoorSj3
set_option linter.unusedVariables false
set_option linter.unusedSimpArgs false
namespace Go.Proofs.YtopihgdbfhiejaaDoor

section
open Go.RowKit Go.Maps

/-- What every step leaves as it was. -/
structure Grw (s s' : Sl) : Prop where
  len : s.tw.length ≤ s'.tw.length
  k : ∀ i, i < s.tw.length → (s'.at i).k = (s.at i).k
  r : ∀ i, i < s.tw.length → (s'.at i).r = (s.at i).r
  h : ∀ i, i < s.tw.length → (s'.at i).h = (s.at i).h
  c : ∀ i, i < s.tw.length → (s'.at i).cs = (s.at i).cs
  lk : ∀ i, i < s.tw.length → (s.at i).lk ≤ (s'.at i).lk
  fs : ∀ i, i < s.tw.length → ∀ l, l < (s.at i).lk → (s'.at i).fs l = (s.at i).fs l

section
variable {z : Nat} {s s' : Sl} {o o' v : Opm} {i j l : Nat}
theorem Grw.tw (h : s'.tw = s.tw) : Grw s s' := by
  have ha : ∀ x, s'.at x = s.at x := fun x => by unfold Sl.at; rw [h]
  exact ⟨by rw [h]; exact Nat.le_refl _, fun x _ => by rw [ha], fun x _ => by rw [ha], fun x _ => by rw [ha], fun x _ => by rw [ha], fun x _ => by rw [ha]; exact Nat.le_refl _, fun x _ l _ => by rw [ha]⟩
theorem Grw.refl (s : Sl) : Grw s s := Grw.tw rfl
theorem Grw.linked {k : ByteArray} {r : Int} {cs : List Nat} (hi : i < s.tw.length) : Grw s (s.linked i k r cs) := by
  have ha := fun x => linked_at (k := k) (r := r) (cs := cs) hi x
  have key : ∀ x, x < s.tw.length → ((s.linked i k r cs).at x).k = (s.at x).k ∧ ((s.linked i k r cs).at x).r = (s.at x).r ∧ ((s.linked i k r cs).at x).h = (s.at x).h ∧ ((s.linked i k r cs).at x).cs = (s.at x).cs ∧ ((s.linked i k r cs).at x).lk = (s.at x).lk ∧ ((s.linked i k r cs).at x).fs = (s.at x).fs := fun x hx => by
    rw [ha, if_neg (by omega)]; split
    · rename_i e; rw [e]; exact ⟨rfl, rfl, rfl, rfl, rfl, rfl⟩
    · exact ⟨rfl, rfl, rfl, rfl, rfl, rfl⟩
  exact ⟨by rw [linked_len]; omega, fun x hx => (key x hx).1, fun x hx => (key x hx).2.1, fun x hx => (key x hx).2.2.1, fun x hx => (key x hx).2.2.2.1, fun x hx => Nat.le_of_eq (key x hx).2.2.2.2.1.symm, fun x hx l _ => by rw [(key x hx).2.2.2.2.2]⟩
theorem Grw.raised (hi : i < s.tw.length) (hj : j < s.tw.length) (hl : (s.at j).lk = l) : Grw s (s.raised i j l) := by
  have ha := fun x => raised_at (l := l) hi hj x
  have key : ∀ x, ((s.raised i j l).at x).k = (s.at x).k ∧ ((s.raised i j l).at x).r = (s.at x).r ∧ ((s.raised i j l).at x).h = (s.at x).h ∧ ((s.raised i j l).at x).cs = (s.at x).cs ∧ (s.at x).lk ≤ ((s.raised i j l).at x).lk ∧ ∀ y, y < (s.at x).lk → ((s.raised i j l).at x).fs y = (s.at x).fs y := fun x => by
    rw [ha]; split
    · rename_i e; rw [e]
      exact ⟨rfl, rfl, rfl, rfl, by show _ ≤ l + 1; omega, fun y hy => upd_ne _ (by omega)⟩
    · split
      · rename_i e; rw [e]; exact ⟨rfl, rfl, rfl, rfl, Nat.le_refl _, fun _ _ => rfl⟩
      · exact ⟨rfl, rfl, rfl, rfl, Nat.le_refl _, fun _ _ => rfl⟩
  exact ⟨by rw [raised_len]; exact Nat.le_refl _, fun x _ => (key x).1, fun x _ => (key x).2.1, fun x _ => (key x).2.2.1, fun x _ => (key x).2.2.2.1, fun x _ => (key x).2.2.2.2.1, fun x _ => (key x).2.2.2.2.2⟩
theorem Grw.fset {x : Nat} (hj : j < s.tw.length) (hl : (s.at j).lk ≤ l) : Grw s (s.fset j l x) := by
  have ha := fun y => fset_at (s := s) (l := l) (x := x) hj y
  have key : ∀ y, ((s.fset j l x).at y).k = (s.at y).k ∧ ((s.fset j l x).at y).r = (s.at y).r ∧ ((s.fset j l x).at y).h = (s.at y).h ∧ ((s.fset j l x).at y).cs = (s.at y).cs ∧ (s.at y).lk ≤ ((s.fset j l x).at y).lk ∧ ∀ q, q < (s.at y).lk → ((s.fset j l x).at y).fs q = (s.at y).fs q := fun y => by
    rw [ha]; split
    · rename_i e; rw [e]
      exact ⟨rfl, rfl, rfl, rfl, Nat.le_refl _, fun q hq => upd_ne _ (by omega)⟩
    · exact ⟨rfl, rfl, rfl, rfl, Nat.le_refl _, fun _ _ => rfl⟩
  exact ⟨by rw [fset_len]; exact Nat.le_refl _, fun x _ => (key x).1, fun x _ => (key x).2.1, fun x _ => (key x).2.2.1, fun x _ => (key x).2.2.2.1, fun x _ => (key x).2.2.2.2.1, fun x _ => (key x).2.2.2.2.2⟩
theorem Stp.grw (hI : OI s o) (hs : Stp z s o s' o') : Grw s s' := by
  cases hs with
  | leave => exact Grw.refl _
  | found => exact Grw.refl _
  | pass => exact Grw.refl _
  | take c => exact Grw.tw rfl
  | link h0 => exact Grw.linked (hI.pt 0 (by rw [(hI.two h0).1]; exact Nat.le_refl _) (by decide)).1
  | late => exact Grw.refl _
  | raise h0 =>
    obtain ⟨t1, t2, t3, _⟩ := hI.tw (hI.thr h0)
    exact Grw.raised (hI.pt o.lv (Nat.le_refl _) hI.lv).1 t1 t3
  | slip h0 =>
    obtain ⟨t1, t2, t3, _⟩ := hI.tw (hI.thr h0)
    exact Grw.fset t1 (Nat.le_of_eq t3)
theorem bh_grw (g : Grw s s') {num : Nat} (hi : i < s.tw.length) (hl : l < (s.at i).lk) (hn : num < s.tw.length) : bh s' i num l = bh s i num l := by
  have := g.len
  unfold bh
  rw [g.fs i hi l hl]
  by_cases q : num = 0
  · rw [if_pos q, if_pos q]
  · rw [if_neg q, if_neg q, if_neg (by omega), if_neg (by omega)]
/-- Another one is where it was. -/
theorem OI.other (h : OI s v) (g : Grw s s') (htw : v.tw ≠ 0 → (s'.at v.tw).lk = (s.at v.tw).lk) (hcs : v.tw = 0 → ∀ c ∈ v.cs, c ∈ s'.sp) : OI s' v := by
  refine ⟨h.lv, fun l h1 h8 => ?_, fun l hq h1 h8 => ?_, h.two, h.thr, fun q => ?_, fun q => ⟨hcs q, (h.cs q).2⟩, h.h8, h.cl⟩
  · obtain ⟨a, b, c⟩ := h.pt l h1 h8
    exact ⟨Nat.lt_of_lt_of_le a g.len, Nat.lt_of_lt_of_le b (g.lk _ a), by rw [g.k _ a]; exact c⟩
  · obtain ⟨a, b, c⟩ := h.pt l h1 h8
    obtain ⟨n1, n2⟩ := h.pn l hq h1 h8
    rw [bh_grw g a b n1]
    exact ⟨Nat.lt_of_lt_of_le n1 g.len, n2.imp id (fun q => ⟨Nat.lt_of_lt_of_le q.1 g.len, by rw [g.k _ q.1]; exact q.2⟩)⟩
  · obtain ⟨t1, t2, t3, t4, t5, t6⟩ := h.tw q
    exact ⟨Nat.lt_of_lt_of_le t1 g.len, by rw [g.k _ t1]; exact t2, by rw [htw q]; exact t3, by rw [g.h _ t1]; exact t4, by rw [g.h _ t1]; exact t5, t6⟩

/-! ### One's own step -/
theorem seen_pn (hok : s.ok) (h : OI s o) (ht : too s o = 0 ∨ Blw o.k (s.at (too s o)).k) (l : Nat) (h1 : o.lv ≤ l) (h8 : l < 8) : upd o.pn o.lv (nmo s o) l < s.tw.length ∧ (bh s (o.pt l) (upd o.pn o.lv (nmo s o) l) l = 0 ∨ (bh s (o.pt l) (upd o.pn o.lv (nmo s o) l) l < s.tw.length ∧ Blw o.k (s.at (bh s (o.pt l) (upd o.pn o.lv (nmo s o) l) l)).k)) := by
  obtain ⟨p1, p2, p3⟩ := h.pt o.lv (Nat.le_refl _) h.lv
  by_cases q : l = o.lv
  · subst q
    rw [upd_same, show bh s (o.pt o.lv) (nmo s o) o.lv = too s o from bh_nx hok p1]
    refine ⟨hok.nl _ p1 _, ?_⟩
    by_cases q0 : too s o = 0
    · exact .inl q0
    · exact .inr ⟨(hok.nx _ p1 _ p2 q0).1, ht.resolve_left q0⟩
  · rw [upd_ne _ q]
    exact h.pn l (.inl (by omega)) h1 h8
theorem OI.leave1 (hok : s.ok) (h : OI s o) (ht : too s o = 0 ∨ Blw o.k (s.at (too s o)).k) (hw : o.tw ≠ 0) : OI s { o.seen (nmo s o) with st := 3 } :=
  ⟨h.lv, h.pt, fun l _ h1 h8 => seen_pn hok h ht l h1 h8, fun q => absurd q (show ¬ (3 : Nat) = 2 by decide), fun _ => hw, h.tw, fun q => absurd q hw, h.h8, h.cl⟩
theorem OI.down (hok : s.ok) (h : OI s o) (h0 : o.st = 1) (ht : too s o = 0 ∨ Blw o.k (s.at (too s o)).k) (hw : o.tw = 0) (hl0 : o.lv ≠ 0) : OI s { o.seen (nmo s o) with lv := o.lv - 1, pt := upd o.pt (o.lv - 1) (o.pt o.lv) } := by
  have hlv := h.lv
  obtain ⟨p1, p2, p3⟩ := h.pt o.lv (Nat.le_refl _) hlv
  have hpt2 : ∀ l, o.lv ≤ l → upd o.pt (o.lv - 1) (o.pt o.lv) l = o.pt l := fun l hl => upd_ne _ (by omega)
  refine ⟨show o.lv - 1 < 8 by omega, fun l h1 h8 => ?_, fun l hq h1 h8 => ?_, fun q => absurd (show o.st = 2 from q) (by omega), fun q => absurd (show o.st = 3 from q) (by omega), fun q => absurd hw q, h.cs, h.h8, h.cl⟩
  · show upd o.pt (o.lv - 1) (o.pt o.lv) l < _ ∧ l < (s.at (upd o.pt (o.lv - 1) (o.pt o.lv) l)).lk ∧ (upd o.pt (o.lv - 1) (o.pt o.lv) l = 0 ∨ Blw (s.at (upd o.pt (o.lv - 1) (o.pt o.lv) l)).k o.k)
    by_cases q : l = o.lv - 1
    · subst q
      rw [upd_same]
      exact ⟨p1, by omega, p3⟩
    · have h1' : o.lv - 1 ≤ l := h1
      rw [hpt2 l (by omega)]
      exact h.pt l (by omega) h8
  · have hl : o.lv ≤ l := by
      rcases hq with q | q
      · have : o.lv - 1 < l := q; omega
      · exact absurd h0 q
    show upd o.pn o.lv (nmo s o) l < _ ∧ (bh s (upd o.pt (o.lv - 1) (o.pt o.lv) l) (upd o.pn o.lv (nmo s o) l) l = 0 ∨ (bh s (upd o.pt (o.lv - 1) (o.pt o.lv) l) (upd o.pn o.lv (nmo s o) l) l < _ ∧ Blw o.k (s.at (bh s (upd o.pt (o.lv - 1) (o.pt o.lv) l) (upd o.pn o.lv (nmo s o) l) l)).k))
    rw [hpt2 l hl]
    exact seen_pn hok h ht l hl h8
theorem OI.two1 (hok : s.ok) (h : OI s o) (ht : too s o = 0 ∨ Blw o.k (s.at (too s o)).k) (hw : o.tw = 0) (hl0 : o.lv = 0) (hk : o.kind = 2) (hg : good o.k = true) (hc : o.cs.length ≤ o.h) : OI s { o.seen (nmo s o) with st := 2 } :=
  ⟨h.lv, h.pt, fun l _ h1 h8 => seen_pn hok h ht l h1 h8, fun _ => ⟨hl0, hw, hk, hg, hc⟩, fun q => absurd q (show ¬ (2 : Nat) = 3 by decide), h.tw, h.cs, h.h8, h.cl⟩
theorem OI.pass (hok : s.ok) (h : OI s o) (h0 : o.st = 1) (ht : too s o ≠ 0) (hk : Blw (s.at (too s o)).k o.k) : OI s { o.seen (nmo s o) with pt := upd o.pt o.lv (too s o) } := by
  have hlv := h.lv
  obtain ⟨p1, p2, p3⟩ := h.pt o.lv (Nat.le_refl _) hlv
  obtain ⟨q1, q2, q3⟩ := hok.nx _ p1 _ p2 ht
  refine ⟨hlv, fun l h1 h8 => ?_, fun l hq2 h1 h8 => ?_, fun q => absurd (show o.st = 2 from q) (by omega), fun q => absurd (show o.st = 3 from q) (by omega), h.tw, h.cs, h.h8, h.cl⟩
  · show upd o.pt o.lv (too s o) l < _ ∧ l < (s.at (upd o.pt o.lv (too s o) l)).lk ∧ (upd o.pt o.lv (too s o) l = 0 ∨ Blw (s.at (upd o.pt o.lv (too s o) l)).k o.k)
    by_cases q : l = o.lv
    · subst q
      rw [upd_same]
      exact ⟨q1, q2, .inr hk⟩
    · rw [upd_ne _ q]
      exact h.pt l h1 h8
  · have hl : o.lv < l := by
      rcases hq2 with q | q
      · exact q
      · exact absurd h0 q
    show upd o.pn o.lv (nmo s o) l < _ ∧ (bh s (upd o.pt o.lv (too s o) l) (upd o.pn o.lv (nmo s o) l) l = 0 ∨ (bh s (upd o.pt o.lv (too s o) l) (upd o.pn o.lv (nmo s o) l) l < _ ∧ Blw o.k (s.at (bh s (upd o.pt o.lv (too s o) l) (upd o.pn o.lv (nmo s o) l) l)).k))
    rw [upd_ne _ (show l ≠ o.lv by omega), upd_ne _ (show l ≠ o.lv by omega)]
    exact h.pn l (.inl hl) h1 h8
theorem OI.take (h : OI s o) {c : Nat} (h0 : o.st = 2) (hl : o.cs.length < o.h) (hc : c ∉ s.cells) : OI (s.taken c) { o with cs := o.cs ++ [c] } := by
  obtain ⟨t1, t2, t3, t4, t5⟩ := h.two h0
  obtain ⟨cs1, cs2⟩ := h.cs t2
  have h8 := h.h8 t3
  have hb := h.other (s' := s.taken c) (Grw.tw rfl) (fun _ => rfl) (fun _ x hx => List.mem_append.2 (.inl (cs1 x hx)))
  refine ⟨hb.lv, hb.pt, hb.pn, fun _ => ⟨t1, t2, t3, t4, by show (o.cs ++ [c]).length ≤ o.h; simp; omega⟩, hb.thr, hb.tw, fun _ => ⟨fun x hx => ?_, ?_⟩, hb.h8, by show (o.cs ++ [c]).length ≤ 8; simp; omega⟩
  · have hx2 : x ∈ o.cs ++ [c] := hx
    show x ∈ s.sp ++ [c]
    rcases List.mem_append.1 hx2 with q | q
    · exact List.mem_append.2 (.inl (cs1 x q))
    · exact List.mem_append.2 (.inr q)
  · show (o.cs ++ [c]).Nodup
    rw [List.nodup_append]
    refine ⟨cs2, by simp, fun x hx y hy e => ?_⟩
    simp at hy
    subst hy
    subst e
    exact hc (sp_cells (cs1 x hx))
theorem OI.late (h : OI s o) (hw : o.tw = 0) : OI s { o with st := 1 } :=
  ⟨h.lv, h.pt, fun l hq h1 h8 => h.pn l (hq.imp id (fun q => absurd rfl q)) h1 h8, fun q => absurd q (show ¬ (1 : Nat) = 2 by decide), fun q => absurd q (show ¬ (1 : Nat) = 3 by decide), h.tw, h.cs, h.h8, h.cl⟩
theorem OI.slip (h : OI s o) (h0 : o.st = 3) {x : Nat} : OI (s.fset o.tw o.lv x) { o with st := 1 } := by
  have t0 := h.thr h0
  obtain ⟨t1, t2, t3, t4, t5, t6⟩ := h.tw t0
  have hb := h.other (s' := s.fset o.tw o.lv x) (Grw.fset t1 (Nat.le_of_eq t3)) (fun _ => by rw [fset_at t1, if_pos rfl]) (fun q => absurd q t0)
  exact ⟨hb.lv, hb.pt, fun l hq h1 h8 => hb.pn l (hq.imp id (fun q => absurd rfl q)) h1 h8, fun q => absurd q (show ¬ (1 : Nat) = 2 by decide), fun q => absurd q (show ¬ (1 : Nat) = 3 by decide), hb.tw, hb.cs, hb.h8, hb.cl⟩
theorem OI.link (h : OI s o) (h0 : o.st = 2) (hl : o.cs.length = o.h) (hn1 : 1 ≤ s.tw.length) (hh : ¬ o.lv + 1 = o.h) : OI (s.linked (o.pt 0) o.k o.r o.cs) { o with st := 3, tw := s.tw.length, lv := o.lv + 1 } := by
  obtain ⟨t1, t2, t3, t4, t5⟩ := h.two h0
  have h8o := h.h8 t3
  have p1 := (h.pt 0 (by omega) (by decide)).1
  have g : Grw s (s.linked (o.pt 0) o.k o.r o.cs) := Grw.linked p1
  have hl2 := linked_len (s := s) (i := o.pt 0) (k := o.k) (r := o.r) (cs := o.cs)
  have hat : (s.linked (o.pt 0) o.k o.r o.cs).at s.tw.length = newT s (o.pt 0) o.k o.r o.cs := by rw [linked_at p1, if_pos rfl]
  refine ⟨show o.lv + 1 < 8 by omega, fun l h1 h8 => ?_, fun l hq h1 h8 => ?_, fun q => absurd q (show ¬ (3 : Nat) = 2 by decide), fun _ => (show s.tw.length ≠ 0 by omega), fun _ => ?_, fun q => absurd q (show s.tw.length ≠ 0 by omega), h.h8, h.cl⟩
  · have h1' : o.lv + 1 ≤ l := h1
    obtain ⟨q1, q2, q3⟩ := h.pt l (by omega) h8
    exact ⟨Nat.lt_of_lt_of_le q1 g.len, Nat.lt_of_lt_of_le q2 (g.lk _ q1), by rw [g.k _ q1]; exact q3⟩
  · have h1' : o.lv + 1 ≤ l := h1
    obtain ⟨q1, q2, q3⟩ := h.pt l (by omega) h8
    obtain ⟨n1, n2⟩ := h.pn l (.inr (by omega)) (by omega) h8
    show o.pn l < _ ∧ (bh _ (o.pt l) (o.pn l) l = 0 ∨ (bh _ (o.pt l) (o.pn l) l < _ ∧ Blw o.k (Sl.at _ (bh _ (o.pt l) (o.pn l) l)).k))
    rw [bh_grw g q1 q2 n1]
    exact ⟨Nat.lt_of_lt_of_le n1 g.len, n2.imp id (fun q => ⟨Nat.lt_of_lt_of_le q.1 g.len, by rw [g.k _ q.1]; exact q.2⟩)⟩
  · show s.tw.length < (s.linked (o.pt 0) o.k o.r o.cs).tw.length ∧ ((s.linked (o.pt 0) o.k o.r o.cs).at s.tw.length).k = o.k ∧ ((s.linked (o.pt 0) o.k o.r o.cs).at s.tw.length).lk = o.lv + 1 ∧ o.lv + 1 < ((s.linked (o.pt 0) o.k o.r o.cs).at s.tw.length).h ∧ ((s.linked (o.pt 0) o.k o.r o.cs).at s.tw.length).h = o.h ∧ 1 ≤ o.lv + 1
    rw [hat, hl2]
    exact ⟨by omega, rfl, (by show 1 = _; omega), (by show _ < o.cs.length; omega), hl, by omega⟩
theorem OI.raise (hok : s.ok) (h : OI s o) (h0 : o.st = 3) (hh : ¬ o.lv + 1 = o.h) : OI (s.raised (o.pt o.lv) o.tw o.lv) { o with st := 3, lv := o.lv + 1 } := by
  have t0 := h.thr h0
  obtain ⟨t1, t2, t3, t4, t5, t6⟩ := h.tw t0
  have hlv := h.lv
  obtain ⟨p1, p2, p3⟩ := h.pt o.lv (Nat.le_refl _) hlv
  have g : Grw s (s.raised (o.pt o.lv) o.tw o.lv) := Grw.raised p1 t1 t3
  have hl2 := raised_len (s := s) (i := o.pt o.lv) (j := o.tw) (l := o.lv)
  have hat : (s.raised (o.pt o.lv) o.tw o.lv).at o.tw = { s.at o.tw with fs := upd (s.at o.tw).fs o.lv (s.nx (o.pt o.lv) o.lv), lk := o.lv + 1 } := by rw [raised_at p1 t1, if_pos rfl]
  have hhh := (hok.sh _ t1).2.2
  refine ⟨show o.lv + 1 < 8 from ?_, fun l h1 h8 => ?_, fun l hq h1 h8 => ?_, fun q => absurd q (show ¬ (3 : Nat) = 2 by decide), fun _ => t0, fun _ => ?_, fun q => absurd q t0, h.h8, h.cl⟩
  · omega
  · have h1' : o.lv + 1 ≤ l := h1
    obtain ⟨q1, q2, q3⟩ := h.pt l (by omega) h8
    exact ⟨Nat.lt_of_lt_of_le q1 g.len, Nat.lt_of_lt_of_le q2 (g.lk _ q1), by rw [g.k _ q1]; exact q3⟩
  · have h1' : o.lv + 1 ≤ l := h1
    obtain ⟨q1, q2, q3⟩ := h.pt l (by omega) h8
    obtain ⟨n1, n2⟩ := h.pn l (.inr (by omega)) (by omega) h8
    show o.pn l < _ ∧ (bh _ (o.pt l) (o.pn l) l = 0 ∨ (bh _ (o.pt l) (o.pn l) l < _ ∧ Blw o.k (Sl.at _ (bh _ (o.pt l) (o.pn l) l)).k))
    rw [bh_grw g q1 q2 n1]
    exact ⟨Nat.lt_of_lt_of_le n1 g.len, n2.imp id (fun q => ⟨Nat.lt_of_lt_of_le q.1 g.len, by rw [g.k _ q.1]; exact q.2⟩)⟩
  · show o.tw < (s.raised (o.pt o.lv) o.tw o.lv).tw.length ∧ ((s.raised (o.pt o.lv) o.tw o.lv).at o.tw).k = o.k ∧ ((s.raised (o.pt o.lv) o.tw o.lv).at o.tw).lk = o.lv + 1 ∧ o.lv + 1 < ((s.raised (o.pt o.lv) o.tw o.lv).at o.tw).h ∧ ((s.raised (o.pt o.lv) o.tw o.lv).at o.tw).h = o.h ∧ 1 ≤ o.lv + 1
    rw [hat, hl2]
    exact ⟨t1, t2, rfl, (by show _ < (s.at o.tw).h; omega), t5, by omega⟩
end
end

section
open Go.RowKit Go.Maps

/-- Which operation an ask is: 2 an Insert, 0 a Lookup, 1 a Next. -/
def okd (x : AskR) : Nat := if pk x.kind 3 = 0 then 2 else if pk x.kind 3 = 1 then 0 else 1
/-- Is it refused? -/
def bad (x : AskR) : Bool := !(okd x == 1) && !good x.key
theorem okd_lt (x : AskR) : okd x ≤ 2 := by unfold okd; repeat' split
                                            all_goals omega
/-- It has put its key in. -/
structure Own (s : Sl) (x : AskR) (n : Nat) : Prop where
  kd : okd x = 2
  lt : 1 ≤ n ∧ n < s.tw.length
  k : (s.at n).k = x.key
  r : (s.at n).r = x.ref
  h : (s.at n).h = hgt x.h
/-- It has found its key. -/
def Fnd (s : Sl) (x : AskR) (o : Opm) : Prop := o.had = true ∧ o.fk = x.key ∧ ∃ j, 1 ≤ j ∧ j < s.tw.length ∧ (s.at j).k = x.key ∧ (s.at j).r = o.nm
/-- One that is under way. -/
structure Run (s : Sl) (x : AskR) (o : Opm) : Prop where
  st : o.st = 1 ∨ o.st = 2 ∨ o.st = 3 ∨ o.st = 4
  oi : o.st ≠ 4 → OI s o
  k : o.k = x.key
  kd : o.kind = okd x
  gd : okd x = 2 → good x.key = true
  h : okd x = 2 → o.h = hgt x.h ∧ o.r = x.ref
  h0 : okd x ≠ 2 → o.h = 0 ∧ o.cs = [] ∧ o.tw = 0
  full : o.full = false
  code : o.code = 0
  cs : o.tw = 0 → (∀ c ∈ o.cs, c ∈ s.sp) ∧ o.cs.Nodup ∧ o.cs.length ≤ o.h
  tw : o.tw ≠ 0 → Own s x o.tw ∧ (s.at o.tw).cells = o.cs
  four : o.st = 4 → o.tw = 0 ∧ o.cs ≠ [] ∧ Fnd s x o
/-- One that is done. -/
structure Fed (s : Sl) (x : AskR) (o : Opm) : Prop where
  st : o.st = 5
  code : o.code = 0
  ans : (o.tw ≠ 0 ∧ Own s x o.tw ∧ o.had = false ∧ o.fk = x.key ∧ o.nm = x.ref) ∨ (o.tw = 0 ∧ Fnd s x o) ∨
    (o.tw = 0 ∧ okd x = 1 ∧ o.had = true ∧ (∃ j, 1 ≤ j ∧ j < s.tw.length ∧ (s.at j).k = o.fk ∧ (s.at j).r = o.nm) ∧ Blw x.key o.fk) ∨
    (o.tw = 0 ∧ okd x ≠ 2 ∧ o.had = false ∧ o.fk = .empty ∧ o.nm = 0)
/-- Nothing that is there was missed. -/
def Nm (x : AskR) (o : Opm) (k : ByteArray) : Prop := (okd x = 0 → k = x.key → o.had = true) ∧ (okd x = 1 → ¬ Blw k x.key → o.had = true ∧ ¬ Blw k o.fk)
def Seen (s : Sl) (x : AskR) (o : Opm) : Prop := ∀ j, 1 ≤ j → j < s.tw.length → Nm x o (s.at j).k

/-- A step of one that is under way. -/
inductive Sq (z : Nat) (s : Sl) (o : Opm) : Sl → Opm → Prop
  | stp (s' : Sl) (o' : Opm) (h4 : o.st ≠ 4) (hs : Stp z s o s' o') : Sq z s o s' o'
  | give (c : Nat) (rest : List Nat) (h0 : o.st = 4) (ec : o.cs = c :: rest) : Sq z s o (s.given c) { o with cs := rest, st := if rest.length = 0 then 5 else 4 }

section
variable {z : Nat} {s s' : Sl} {x : AskR} {o o' : Opm}
theorem Own.grw {n : Nat} (h : Own s x n) (g : Grw s s') : Own s' x n :=
  ⟨h.kd, ⟨h.lt.1, Nat.lt_of_lt_of_le h.lt.2 g.len⟩, by rw [g.k _ h.lt.2]; exact h.k, by rw [g.r _ h.lt.2]; exact h.r, by rw [g.h _ h.lt.2]; exact h.h⟩
theorem Fnd.grw (h : Fnd s x o) (g : Grw s s') : Fnd s' x o := by
  obtain ⟨h1, h2, j, h3, h4, h5, h6⟩ := h
  exact ⟨h1, h2, j, h3, Nat.lt_of_lt_of_le h4 g.len, by rw [g.k _ h4]; exact h5, by rw [g.r _ h4]; exact h6⟩
theorem Fed.grw (h : Fed s x o) (g : Grw s s') : Fed s' x o := by
  refine ⟨h.st, h.code, ?_⟩
  rcases h.ans with q | q | q | q
  · exact .inl ⟨q.1, q.2.1.grw g, q.2.2⟩
  · exact .inr (.inl ⟨q.1, q.2.grw g⟩)
  · obtain ⟨q1, q2, q3, ⟨j, q4, q5, q6, q7⟩, q8⟩ := q
    exact .inr (.inr (.inl ⟨q1, q2, q3, ⟨j, q4, Nat.lt_of_lt_of_le q5 g.len, by rw [g.k _ q5]; exact q6, by rw [g.r _ q5]; exact q7⟩, q8⟩))
  · exact .inr (.inr (.inr q))
theorem cells_grw (g : Grw s s') {i : Nat} (hi : i < s.tw.length) : (s'.at i).cells = (s.at i).cells := by
  unfold Tw.cells
  rw [g.h i hi, g.c i hi]
/-- Another one stays what it is. -/
theorem Run.other (h : Run s x o) (g : Grw s s') (htw : o.tw ≠ 0 → (s'.at o.tw).lk = (s.at o.tw).lk) (hcs : o.tw = 0 → ∀ c ∈ o.cs, c ∈ s'.sp) : Run s' x o :=
  ⟨h.st, fun q => (h.oi q).other g htw hcs, h.k, h.kd, h.gd, h.h, h.h0, h.full, h.code, fun q => ⟨hcs q, (h.cs q).2⟩, fun q => ⟨(h.tw q).1.grw g, by rw [cells_grw g (h.tw q).1.lt.2]; exact (h.tw q).2⟩, fun q => ⟨(h.four q).1, (h.four q).2.1, (h.four q).2.2.grw g⟩⟩
/-- The cells of one that has put its key in are spare no more. -/
theorem Run.nosp (h : Run s x o) (hnd : s.cells.Nodup) (hw : o.tw ≠ 0) : ∀ c ∈ o.cs, c ∉ s.sp := by
  intro c hc q
  obtain ⟨t1, t2⟩ := h.tw hw
  rw [← t2] at hc
  unfold Tw.cells at hc
  obtain ⟨l, hl, rfl⟩ := List.mem_map.1 hc
  exact (List.nodup_append.1 hnd).2.2 _ (cs_own t1.lt.2 (List.mem_range.1 hl)) _ q rfl
theorem ans_sp (o : Opm) (s : Sl) (i : Nat) (had : Bool) (h : ∀ c ∈ o.cs, c ∈ s.sp) : (o.ans s i had) = { o with fk := (s.at i).k, nm := (s.at i).r, had := had, st := if o.cs.length = 0 then 5 else 4 } := by
  have e : o.cs.filter (fun c => s.sp.contains c) = o.cs := List.filter_eq_self.2 (fun c hc => by simpa using h c hc)
  unfold Opm.ans Opm.owned Opm.told
  simp only [e]

theorem Run.step (h : Run s x o) (hok : s.ok) (hok' : s'.ok) (hnd : s.cells.Nodup) (hs : Sq z s o s' o') : (o'.st ≠ 5 → Run s' x o') ∧ (o'.st = 5 → Fed s' x o' ∧ Seen s' x o') := by
  cases hs with
  | give c rest h0 ec =>
    obtain ⟨f1, f2, f3⟩ := h.four h0
    obtain ⟨c1, c2, c3⟩ := h.cs f1
    have hk2 : okd x = 2 := by
      rcases Nat.lt_or_ge (okd x) 2 with q | q
      · exact absurd (h.h0 (by omega)).2.1 f2
      · have := okd_lt x; omega
    rw [ec] at c1 c2 c3
    obtain ⟨n1, n2⟩ := List.nodup_cons.1 c2
    refine ⟨fun q => ?_, fun q => ⟨⟨q, h.code, .inr (.inl ⟨f1, f3.grw (s' := s.given c) (Grw.tw rfl)⟩)⟩, fun j _ _ => ⟨fun q2 => absurd q2 (by omega), fun q2 => absurd q2 (by omega)⟩⟩⟩
    have hr : ¬ rest.length = 0 := fun e => q (by show (if rest.length = 0 then 5 else 4) = 5; rw [if_pos e])
    have e4 : (if rest.length = 0 then 5 else 4) = 4 := if_neg hr
    refine ⟨.inr (.inr (.inr e4)), fun q2 => absurd e4 q2, h.k, h.kd, h.gd, h.h, fun q2 => absurd hk2 q2, h.full, h.code, fun _ => ⟨fun c' hc' => ?_, n2, ?_⟩, fun q2 => absurd f1 q2, fun _ => ⟨f1, ?_, f3.grw (s' := s.given c) (Grw.tw rfl)⟩⟩
    · have hc2 : c' ∈ rest := hc'
      show c' ∈ s.sp.filter (fun x => !(x == c))
      exact List.mem_filter.2 ⟨c1 c' (by simp [hc2]), by simp; rintro rfl; exact n1 hc2⟩
    · show rest.length ≤ o.h
      simp at c3; omega
    · show rest ≠ []
      intro e; rw [e] at hr; exact hr rfl
  | stp s' o' h4 hs =>
    have hI := h.oi h4
    have hlv := hI.lv
    obtain ⟨p1, p2, p3⟩ := hI.pt o.lv (Nat.le_refl _) hlv
    have hto0 : too s o ≠ 0 → 1 ≤ too s o ∧ too s o < s.tw.length ∧ o.lv < (s.at (too s o)).lk := fun q => ⟨by omega, (hok.nx _ p1 _ p2 q).1, (hok.nx _ p1 _ p2 q).2.1⟩
    have hkk := okd_lt x
    cases hs with
    | leave h0 ht =>
      by_cases hw : o.tw = 0
      · by_cases hl0 : o.lv = 0
        · have hex : s.nx (o.pt o.lv) 0 = too s o := by unfold too; rw [hl0]
          have hends : ∀ x, 1 ≤ x → x < s.tw.length → Blw (s.at x).k o.k ∨ (too s o ≠ 0 ∧ ¬ Blw (s.at x).k (s.at (too s o)).k) := fun x h1 hx => by
            have q := hok.ends (k := o.k) p1 p3 x h1 hx
            rw [hex] at q
            exact q
          have hnok : ∀ x, 1 ≤ x → x < s.tw.length → (s.at x).k ≠ o.k := fun x h1 hx q => by
            rcases hends x h1 hx with q2 | ⟨q2, q3⟩
            · rw [q] at q2; exact Blw.irrefl q2
            · rw [q] at q3
              exact q3 (ht.resolve_left q2)
          have e0 : (o.seen (nmo s o)).left s (too s o) = if o.kind = 0 then (o.seen (nmo s o)).ans s 0 false else if o.kind = 1 then (o.seen (nmo s o)).ans s (too s o) (decide (too s o ≠ 0)) else { o.seen (nmo s o) with st := 2 } := by
            unfold Opm.left
            rw [if_neg (show ¬ (o.seen (nmo s o)).tw ≠ 0 from fun q => q hw), if_neg (show ¬ (o.seen (nmo s o)).lv ≠ 0 from fun q => q hl0)]
            show (if o.kind = 0 then _ else if o.kind = 1 then _ else if o.full = true then _ else _) = _
            rw [h.full]
            rfl
          rw [e0]
          by_cases k0 : o.kind = 0
          · rw [if_pos k0]
            have kd := h.kd; rw [k0] at kd
            obtain ⟨z1, z2, z3⟩ := h.h0 (by omega)
            obtain ⟨f1, f2, f3, f4, f5⟩ := ans_nil (o.seen (nmo s o)) s 0 false (fun c hc => by have hc2 : c ∈ o.cs := hc; rw [z2] at hc2; cases hc2)
            refine ⟨fun q => absurd f1 q, fun _ => ⟨⟨f1, f5.trans h.code, .inr (.inr (.inr ⟨hw, by omega, f4, by rw [f2, hok.hd.1], by rw [f3, hok.hd.2.2.2]⟩))⟩, fun j h1 hj => ⟨fun _ q => ?_, fun q => absurd q (by omega)⟩⟩⟩
            exact absurd (q.trans h.k.symm) (hnok j h1 hj)
          · rw [if_neg k0]
            by_cases k1 : o.kind = 1
            · rw [if_pos k1]
              have kd := h.kd; rw [k1] at kd
              obtain ⟨z1, z2, z3⟩ := h.h0 (by omega)
              obtain ⟨f1, f2, f3, f4, f5⟩ := ans_nil (o.seen (nmo s o)) s (too s o) (decide (too s o ≠ 0)) (fun c hc => by have hc2 : c ∈ o.cs := hc; rw [z2] at hc2; cases hc2)
              refine ⟨fun q => absurd f1 q, fun _ => ⟨⟨f1, f5.trans h.code, ?_⟩, fun j h1 hj => ⟨fun q => absurd q (by omega), fun _ q => ?_⟩⟩⟩
              · by_cases q0 : too s o = 0
                · exact .inr (.inr (.inr ⟨hw, by omega, by rw [f4, q0]; rfl, by rw [f2, q0, hok.hd.1], by rw [f3, q0, hok.hd.2.2.2]⟩))
                · have hq := hto0 q0
                  exact .inr (.inr (.inl ⟨hw, kd.symm, by rw [f4]; exact decide_eq_true q0, ⟨too s o, hq.1, hq.2.1, f2.symm, f3.symm⟩, by rw [f2, ← h.k]; exact ht.resolve_left q0⟩))
              · rcases hends j h1 hj with q2 | ⟨q2, q3⟩
                · rw [h.k] at q2; exact absurd q2 q
                · exact ⟨by rw [f4]; exact decide_eq_true q2, by rw [f2]; exact q3⟩
            · rw [if_neg k1]
              have hk2 : o.kind = 2 := by have := h.kd; omega
              have hx2 : okd x = 2 := by rw [← h.kd]; exact hk2
              refine ⟨fun _ => ⟨.inr (.inl rfl), fun _ => hI.two1 hok ht hw hl0 hk2 (by rw [h.k]; exact h.gd hx2) (h.cs hw).2.2, h.k, h.kd, h.gd, h.h, h.h0, h.full, h.code, h.cs, h.tw, fun q => absurd q (show ¬ (2 : Nat) = 4 by decide)⟩, fun q => absurd q (show ¬ (2 : Nat) = 5 by decide)⟩
        · have e0 : (o.seen (nmo s o)).left s (too s o) = { o.seen (nmo s o) with lv := o.lv - 1, pt := upd o.pt (o.lv - 1) (o.pt o.lv) } := by
            unfold Opm.left
            rw [if_neg (show ¬ (o.seen (nmo s o)).tw ≠ 0 from fun q => q hw), if_pos (show (o.seen (nmo s o)).lv ≠ 0 from hl0)]
            rfl
          rw [e0]
          refine ⟨fun _ => ⟨.inl h0, fun _ => hI.down hok h0 ht hw hl0, h.k, h.kd, h.gd, h.h, h.h0, h.full, h.code, h.cs, h.tw, fun q => absurd (show o.st = 4 from q) h4⟩, fun q => absurd (show o.st = 5 from q) (by omega)⟩
      · have e0 : (o.seen (nmo s o)).left s (too s o) = { o.seen (nmo s o) with st := 3 } := by
          unfold Opm.left
          rw [if_pos (show (o.seen (nmo s o)).tw ≠ 0 from hw)]
        rw [e0]
        refine ⟨fun _ => ⟨.inr (.inr (.inl rfl)), fun _ => hI.leave1 hok ht hw, h.k, h.kd, h.gd, h.h, h.h0, h.full, h.code, h.cs, h.tw, fun q => absurd q (show ¬ (3 : Nat) = 4 by decide)⟩, fun q => absurd q (show ¬ (3 : Nat) = 5 by decide)⟩
    | found h0 ht hk =>
      have hq := hto0 ht
      have hw : o.tw = 0 := by
        rcases Nat.eq_zero_or_pos o.tw with q | q
        · exact q
        · obtain ⟨t1, t2, t3, _⟩ := hI.tw (by omega)
          have e := hok.one _ _ t1 hq.2.1 (t2.trans hk)
          rw [← e] at hq
          omega
      obtain ⟨c1, c2, c3⟩ := h.cs hw
      have ea := ans_sp (o.seen (nmo s o)) s (too s o) true c1
      rw [ea]
      have hF : ∀ st, Fnd s x { o.seen (nmo s o) with fk := (s.at (too s o)).k, nm := (s.at (too s o)).r, had := true, st := st } := fun st => ⟨rfl, by show (s.at (too s o)).k = _; rw [← hk, h.k], too s o, hq.1, hq.2.1, by rw [← hk, h.k], rfl⟩
      refine ⟨fun q => ?_, fun q => ⟨⟨q, h.code, .inr (.inl ⟨hw, hF _⟩)⟩, fun j h1 hj => ⟨fun _ _ => rfl, fun _ q2 => ⟨rfl, ?_⟩⟩⟩⟩
      · have hl : ¬ o.cs.length = 0 := fun e => q (by show (if o.cs.length = 0 then 5 else 4) = 5; rw [if_pos e])
        have e4 : (if o.cs.length = 0 then 5 else 4) = 4 := if_neg hl
        exact ⟨.inr (.inr (.inr e4)), fun q2 => absurd e4 q2, h.k, h.kd, h.gd, h.h, h.h0, h.full, h.code, h.cs, h.tw, fun _ => ⟨hw, (fun e => hl (by show o.cs.length = 0; rw [show o.cs = [] from e]; rfl)), hF _⟩⟩
      · show ¬ Blw (s.at j).k (s.at (too s o)).k
        rw [← hk, h.k]; exact q2
    | pass h0 ht hk =>
      exact ⟨fun _ => ⟨.inl h0, fun _ => hI.pass hok h0 ht hk, h.k, h.kd, h.gd, h.h, h.h0, h.full, h.code, h.cs, h.tw, fun q => absurd (show o.st = 4 from q) h4⟩, fun q => absurd (show o.st = 5 from q) (by omega)⟩
    | take c h0 hl hz hc =>
      obtain ⟨t1, t2, t3, t4, t5⟩ := hI.two h0
      obtain ⟨c1, c2, c3⟩ := h.cs t2
      have ho := hI.take h0 hl hc
      have hk2 : okd x = 2 := by rw [← h.kd]; exact t3
      exact ⟨fun _ => ⟨.inr (.inl h0), fun _ => ho, h.k, h.kd, h.gd, h.h, fun q => absurd hk2 q, h.full, h.code, fun _ => ⟨(ho.cs t2).1, (ho.cs t2).2, by show (o.cs ++ [c]).length ≤ o.h; simp; omega⟩, fun q => absurd t2 q, fun q => absurd (show o.st = 4 from q) h4⟩, fun q => absurd (show o.st = 5 from q) (by omega)⟩
    | late h0 hl hn =>
      obtain ⟨t1, t2, t3, t4, t5⟩ := hI.two h0
      exact ⟨fun _ => ⟨.inl rfl, fun _ => hI.late t2, h.k, h.kd, h.gd, h.h, h.h0, h.full, h.code, h.cs, h.tw, fun q => absurd q (show ¬ (1 : Nat) = 4 by decide)⟩, fun q => absurd q (show ¬ (1 : Nat) = 5 by decide)⟩
    | slip h0 hn =>
      have t0 := hI.thr h0
      obtain ⟨t1, t2, t3, t4, t5, t6⟩ := hI.tw t0
      have g : Grw s (s.fset o.tw o.lv (bh s (o.pt o.lv) (o.pn o.lv) o.lv)) := Grw.fset t1 (Nat.le_of_eq t3)
      have hr := h.other g (fun _ => by rw [fset_at t1, if_pos rfl]) (fun q => absurd q t0)
      exact ⟨fun _ => ⟨.inl rfl, fun _ => hI.slip h0, h.k, h.kd, h.gd, h.h, h.h0, h.full, h.code, hr.cs, hr.tw, fun q => absurd q (show ¬ (1 : Nat) = 4 by decide)⟩, fun q => absurd q (show ¬ (1 : Nat) = 5 by decide)⟩
    | link h0 hl hn =>
      obtain ⟨t1, t2, t3, t4, t5⟩ := hI.two h0
      obtain ⟨c1, c2, c3⟩ := h.cs t2
      have hk2 : okd x = 2 := by rw [← h.kd]; exact t3
      obtain ⟨e1, e2⟩ := h.h hk2
      have hh8 := hI.h8 t3
      have p0 := (hI.pt 0 (by omega) (by decide)).1
      have g : Grw s (s.linked (o.pt 0) o.k o.r o.cs) := Grw.linked p0
      have hl2 := linked_len (s := s) (i := o.pt 0) (k := o.k) (r := o.r) (cs := o.cs)
      have hat : (s.linked (o.pt 0) o.k o.r o.cs).at s.tw.length = newT s (o.pt 0) o.k o.r o.cs := by rw [linked_at p0, if_pos rfl]
      have hn1 := hok.n1
      have hsp2 : ∀ c ∈ o.cs, c ∉ (s.linked (o.pt 0) o.k o.r o.cs).sp := fun c hc q => by
        have := (List.mem_filter.1 (show c ∈ s.sp.filter (fun c => !o.cs.contains c) from q)).2
        simp at this
        exact this hc
      have hown : Own (s.linked (o.pt 0) o.k o.r o.cs) x s.tw.length := by
        refine ⟨hk2, by rw [hl2]; omega, ?_, ?_, ?_⟩
        · rw [hat]; exact h.k
        · rw [hat]; exact e2
        · rw [hat]; show o.cs.length = _; omega
      by_cases hh : o.lv + 1 = o.h
      · have e0 : ({ o with st := 1, tw := s.tw.length } : Opm).rose (s.linked (o.pt 0) o.k o.r o.cs) = ({ o with st := 3, tw := s.tw.length, lv := o.lv + 1 } : Opm).ans (s.linked (o.pt 0) o.k o.r o.cs) s.tw.length false := by
          unfold Opm.rose
          rw [if_pos (show o.lv + 1 = o.h from hh)]
        rw [e0]
        obtain ⟨f1, f2, f3, f4, f5⟩ := ans_nil ({ o with st := 3, tw := s.tw.length, lv := o.lv + 1 } : Opm) (s.linked (o.pt 0) o.k o.r o.cs) s.tw.length false hsp2
        refine ⟨fun q => absurd f1 q, fun _ => ⟨⟨f1, f5.trans h.code, .inl ⟨(show s.tw.length ≠ 0 by omega), hown, f4, ?_, ?_⟩⟩, fun j _ _ => ⟨fun q => absurd q (by omega), fun q => absurd q (by omega)⟩⟩⟩
        · rw [f2, hat]; exact h.k
        · rw [f3, hat]; exact e2
      · have e0 : ({ o with st := 1, tw := s.tw.length } : Opm).rose (s.linked (o.pt 0) o.k o.r o.cs) = { o with st := 3, tw := s.tw.length, lv := o.lv + 1 } := by
          unfold Opm.rose
          rw [if_neg (show ¬ o.lv + 1 = o.h from hh)]
        rw [e0]
        exact ⟨fun _ => ⟨.inr (.inr (.inl rfl)), fun _ => hI.link h0 hl hn1 hh, h.k, h.kd, h.gd, h.h, fun q => absurd hk2 q, h.full, h.code, fun q => absurd q (show s.tw.length ≠ 0 by omega), fun _ => ⟨hown, by show ((s.linked (o.pt 0) o.k o.r o.cs).at s.tw.length).cells = o.cs; rw [hat]; exact newT_cells _ _ _⟩, fun q => absurd q (show ¬ (3 : Nat) = 4 by decide)⟩, fun q => absurd q (show ¬ (3 : Nat) = 5 by decide)⟩
    | raise h0 hn =>
      have t0 := hI.thr h0
      obtain ⟨t1, t2, t3, t4, t5, t6⟩ := hI.tw t0
      obtain ⟨w1, w2⟩ := h.tw t0
      have g : Grw s (s.raised (o.pt o.lv) o.tw o.lv) := Grw.raised p1 t1 t3
      have hnosp := h.nosp hnd t0
      have hown : Own (s.raised (o.pt o.lv) o.tw o.lv) x o.tw := w1.grw g
      by_cases hh : o.lv + 1 = o.h
      · have e0 : o.rose (s.raised (o.pt o.lv) o.tw o.lv) = ({ o with st := 3, lv := o.lv + 1 } : Opm).ans (s.raised (o.pt o.lv) o.tw o.lv) o.tw false := by
          unfold Opm.rose
          rw [if_pos hh]
        rw [e0]
        obtain ⟨f1, f2, f3, f4, f5⟩ := ans_nil ({ o with st := 3, lv := o.lv + 1 } : Opm) (s.raised (o.pt o.lv) o.tw o.lv) o.tw false hnosp
        refine ⟨fun q => absurd f1 q, fun _ => ⟨⟨f1, f5.trans h.code, .inl ⟨t0, hown, f4, ?_, ?_⟩⟩, fun j _ _ => ⟨fun q => absurd q (by rw [w1.kd]; decide), fun q => absurd q (by rw [w1.kd]; decide)⟩⟩⟩
        · rw [f2]; exact hown.k
        · rw [f3]; exact hown.r
      · have e0 : o.rose (s.raised (o.pt o.lv) o.tw o.lv) = { o with st := 3, lv := o.lv + 1 } := by
          unfold Opm.rose
          rw [if_neg hh]
        rw [e0]
        exact ⟨fun _ => ⟨.inr (.inr (.inl rfl)), fun _ => hI.raise hok h0 hh, h.k, h.kd, h.gd, h.h, h.h0, h.full, h.code, fun q => absurd q t0, fun _ => ⟨hown, by show ((s.raised (o.pt o.lv) o.tw o.lv).at o.tw).cells = o.cs; rw [cells_grw g t1]; exact w2⟩, fun q => absurd q (show ¬ (3 : Nat) = 4 by decide)⟩, fun q => absurd q (show ¬ (3 : Nat) = 5 by decide)⟩
/-- One that is begun. -/
theorem opA_run (hok : s.ok) (x : AskR) (hb : bad x = false) : Run s x (opA x) := by
  have hA := fun kind r h (hk2 : kind ≠ 0 → kind ≠ 1 → kind = 2) (hh : kind = 2 → good x.key = true ∧ 1 ≤ h ∧ h ≤ 8) => (Alo.start (r := r) (h := h) hok (k := x.key) hk2 hh).oi
  have hg := hgt_bd x.h
  unfold bad at hb
  simp only [Bool.and_eq_false_iff, Bool.not_eq_false', beq_iff_eq] at hb
  unfold opA
  by_cases k0 : pk x.kind 3 = 0
  · have e : okd x = 2 := by unfold okd; rw [if_pos k0]
    have g : good x.key = true := by rcases hb with q | q
                                     · omega
                                     · simpa using q
    rw [if_pos k0, if_pos g]
    exact ⟨.inl rfl, fun _ => hA 2 x.ref (hgt x.h) (fun _ _ => rfl) (fun _ => ⟨g, hg⟩), rfl, e.symm, fun _ => g, fun _ => ⟨rfl, rfl⟩, fun q => absurd e q, rfl, rfl, fun _ => ⟨fun c hc => (by cases (show c ∈ ([] : List Nat) from hc)), List.nodup_nil, Nat.zero_le _⟩, fun q => absurd rfl q, fun q => absurd q (show ¬ (1 : Nat) = 4 by decide)⟩
  · rw [if_neg k0]
    by_cases k1 : pk x.kind 3 = 1
    · have e : okd x = 0 := by unfold okd; rw [if_neg k0, if_pos k1]
      have g : good x.key = true := by rcases hb with q | q
                                       · omega
                                       · simpa using q
      rw [if_pos k1, if_pos g]
      exact ⟨.inl rfl, fun _ => hA 0 0 0 (fun q _ => absurd rfl q) (fun q => absurd q (by decide)), rfl, e.symm, fun q => absurd q (by omega), fun q => absurd q (by omega), fun _ => ⟨rfl, rfl, rfl⟩, rfl, rfl, fun _ => ⟨fun c hc => (by cases (show c ∈ ([] : List Nat) from hc)), List.nodup_nil, Nat.zero_le _⟩, fun q => absurd rfl q, fun q => absurd q (show ¬ (1 : Nat) = 4 by decide)⟩
    · have e : okd x = 1 := by unfold okd; rw [if_neg k0, if_neg k1]
      rw [if_neg k1]
      exact ⟨.inl rfl, fun _ => hA 1 0 0 (fun _ q => absurd rfl q) (fun q => absurd q (by decide)), rfl, e.symm, fun q => absurd q (by omega), fun q => absurd q (by omega), fun _ => ⟨rfl, rfl, rfl⟩, rfl, rfl, fun _ => ⟨fun c hc => (by cases (show c ∈ ([] : List Nat) from hc)), List.nodup_nil, Nat.zero_le _⟩, fun q => absurd rfl q, fun q => absurd q (show ¬ (1 : Nat) = 4 by decide)⟩
theorem opA_bad (x : AskR) (hb : bad x = true) : (opA x).st = 0 ∧ (opA x).tw = 0 ∧ (opA x).cs = [] ∧ (opA x).fk = .empty ∧ (opA x).had = false ∧ (opA x).nm = 0 := by
  unfold bad at hb
  simp only [Bool.and_eq_true, Bool.not_eq_true', beq_eq_false_iff_ne] at hb
  obtain ⟨h1, h2⟩ := hb
  have g : ¬ good x.key = true := by rw [h2]; decide
  unfold opA
  by_cases k0 : pk x.kind 3 = 0
  · rw [if_pos k0, if_neg g]; exact ⟨rfl, rfl, rfl, rfl, rfl, rfl⟩
  · rw [if_neg k0]
    by_cases k1 : pk x.kind 3 = 1
    · rw [if_pos k1, if_neg g]; exact ⟨rfl, rfl, rfl, rfl, rfl, rfl⟩
    · exact absurd (by unfold okd; rw [if_neg k0, if_neg k1]) h1
end
end

section
open Go.RowKit Go.Maps

/-- An operation: what was asked, its state, its blocks, when it was begun, when it was done. -/
structure Un where
  x : AskR
  o : Opm
  b : Nat
  B : Nat → Prop
  cv : Value
  beg : Nat
  fin : Option Nat
def wkr (x : AskR) : Nat := pk x.w 4
theorem wkr_lt (x : AskR) : wkr x < 4 := pk_lt _ (by decide)
structure Ui (s : Sl) (t : Nat) (u : Un) : Prop where
  bg : u.beg ≤ t
  ed : ∀ f, u.fin = some f → u.beg ≤ f ∧ f ≤ t
  run : u.fin = none → bad u.x = false → Run s u.x u.o
  fed : u.fin.isSome = true → bad u.x = false → Fed s u.x u.o
  nrun : u.fin = none → bad u.x = true → u.o = opA u.x
  nfed : u.fin.isSome = true → bad u.x = true → u.o = { opA u.x with code := 100, st := 5 }
def Un.hh (u : Un) : Nat := if u.o.tw = 0 then 0 else hgt u.x.h
structure Ti (s : Sl) (l : List Un) (now : Nat → Option Nat) (t : Nat) : Prop where
  one : ∀ u ∈ l, Ui s t u
  nw : ∀ (w j : Nat), now w = some j → ∃ u, l[j]? = some u ∧ u.fin = none ∧ wkr u.x = w
  un : ∀ (j : Nat) (u : Un), l[j]? = some u → u.fin = none → now (wkr u.x) = some j
  inj : ∀ (i j : Nat) (u v : Un) (c : Nat), l[i]? = some u → l[j]? = some v → u.fin = none → v.fin = none → u.o.tw = 0 → v.o.tw = 0 → c ∈ u.o.cs → c ∈ v.o.cs → i = j
  sp : ∀ c ∈ s.sp, ∃ u ∈ l, u.fin = none ∧ u.o.tw = 0 ∧ c ∈ u.o.cs
  own : ∀ i, 1 ≤ i → i < s.tw.length → ∃ u ∈ l, u.o.tw = i
  uni : ∀ (i j : Nat) (u v : Un), l[i]? = some u → l[j]? = some v → u.o.tw ≠ 0 → u.o.tw = v.o.tw → i = j
  hs : ((ks s).map fun x => x.2.2).sum = 8 + (l.map Un.hh).sum
  ct : s.tw.length = 1 + (l.filter fun u => decide (u.o.tw ≠ 0)).length
  ord : ∀ u ∈ l, ∀ v ∈ l, ∀ (a b : Nat), u.fin = some a → v.fin = some b → b < a → bad u.x = false → v.o.code = 0 → v.o.fk ≠ .empty → Nm u.x u.o v.o.fk
  hb : ∀ u ∈ l, ∀ (a : Nat), u.fin = some a → u.o.code = 0 → u.o.fk ≠ .empty → ∃ v ∈ l, v.o.tw ≠ 0 ∧ v.x.key = u.o.fk ∧ v.beg ≤ a

theorem opA_tw (x : AskR) : (opA x).tw = 0 ∧ (opA x).cs = [] := by
  unfold opA opS opN
  repeat' split
  all_goals exact ⟨rfl, rfl⟩
theorem sum_set : ∀ (l : List Nat) (j x : Nat), j < l.length → (l.set j x).sum + l.getD j 0 = l.sum + x
  | [], j, x, h => by simp at h
  | y :: ys, 0, x, h => by simp; omega
  | y :: ys, j + 1, x, h => by
    have := sum_set ys j x (by simpa using h)
    simp only [List.set_cons_succ, List.sum_cons, List.getD_cons_succ]
    omega
theorem set_get {l : List Un} {j i : Nat} {u0 u v : Un} (hj : l[j]? = some u) (h : (l.set j u0)[i]? = some v) : (i = j ∧ v = u0) ∨ (i ≠ j ∧ l[i]? = some v) := by
  have hjl := (List.getElem?_eq_some_iff.1 hj).1
  rw [List.getElem?_set] at h
  by_cases e : j = i
  · rw [if_pos e, if_pos hjl] at h
    exact .inl ⟨e.symm, (Option.some.inj h).symm⟩
  · rw [if_neg e] at h
    exact .inr ⟨fun q => e q.symm, h⟩
theorem set_mem {l : List Un} {j : Nat} {u0 u v : Un} (hj : l[j]? = some u) (h : v ∈ l.set j u0) : v = u0 ∨ ∃ i, i ≠ j ∧ l[i]? = some v := by
  obtain ⟨i, hi⟩ := List.getElem?_of_mem h
  rcases set_get hj hi with ⟨_, e⟩ | ⟨e, h1⟩
  · exact .inl e
  · exact .inr ⟨i, e, h1⟩
theorem set_new {l : List Un} {j : Nat} {u0 u : Un} (hj : l[j]? = some u) : (l.set j u0)[j]? = some u0 := by
  have hjl := (List.getElem?_eq_some_iff.1 hj).1
  rw [List.getElem?_set, if_pos rfl, if_pos hjl]
theorem set_old {l : List Un} {j i : Nat} {u0 v : Un} (hi : i ≠ j) (h : l[i]? = some v) : (l.set j u0)[i]? = some v := by
  rw [List.getElem?_set, if_neg (fun q => hi q.symm)]; exact h
theorem filter_set {p : Un → Bool} : ∀ {l : List Un} {j : Nat} {u0 u : Un}, l[j]? = some u → ((l.set j u0).filter p).length + (if p u = true then 1 else 0) = (l.filter p).length + (if p u0 = true then 1 else 0)
  | [], j, u0, u, hj => by simp at hj
  | y :: ys, 0, u0, u, hj => by
    simp at hj; subst hj
    simp only [List.set_cons_zero, List.filter_cons]
    cases p u0 <;> cases p y <;> simp
  | y :: ys, j + 1, u0, u, hj => by
    have := filter_set (p := p) (l := ys) (j := j) (u0 := u0) (u := u) (by simpa using hj)
    simp only [List.set_cons_succ, List.filter_cons]
    split
    · simp only [List.length_cons]; omega
    · exact this
theorem hh_set {l : List Un} {j : Nat} {u0 u : Un} (hj : l[j]? = some u) : ((l.set j u0).map Un.hh).sum + u.hh = (l.map Un.hh).sum + u0.hh := by
  have hjl := (List.getElem?_eq_some_iff.1 hj).1
  have := sum_set (l.map Un.hh) j u0.hh (by simpa using hjl)
  rw [← List.map_set] at this
  have e : (l.map Un.hh).getD j 0 = u.hh := by simp [List.getD, List.getElem?_map, hj]
  omega

section
variable {z : Nat} {s s' : Sl} {x : AskR} {o o' : Opm}
theorem Sq.grw (h : Run s x o) (hs : Sq z s o s' o') : Grw s s' := by
  cases hs with
  | give c rest h0 ec => exact Grw.tw rfl
  | stp s' o' h4 hs => exact hs.grw (h.oi h4)
theorem Sq.lk (h : Run s x o) (hs : Sq z s o s' o') {i : Nat} (hi : i < s.tw.length) (hne : i ≠ o.tw) : (s'.at i).lk = (s.at i).lk := by
  cases hs with
  | give c rest h0 ec => rfl
  | stp s' o' h4 hs =>
    have hI := h.oi h4
    cases hs with
    | link h0 =>
      have p0 := (hI.pt 0 (by rw [(hI.two h0).1]; exact Nat.le_refl _) (by decide)).1
      exact (linked_old p0 hi).2.1
    | raise h0 =>
      obtain ⟨t1, _⟩ := hI.tw (hI.thr h0)
      exact ((raised_old (hI.pt o.lv (Nat.le_refl _) hI.lv).1 t1 i).2.1 hne).1
    | slip h0 =>
      obtain ⟨t1, _⟩ := hI.tw (hI.thr h0)
      rw [fset_at t1, if_neg hne]
    | leave => rfl
    | found => rfl
    | pass => rfl
    | take c => rfl
    | late => rfl
theorem Sq.sp_keep (h : Run s x o) (hs : Sq z s o s' o') {c : Nat} (hc : c ∈ s.sp) (hn : o.tw = 0 → c ∉ o.cs) : c ∈ s'.sp := by
  cases hs with
  | give c2 rest h0 ec =>
    have := hn (h.four h0).1
    rw [ec] at this
    exact List.mem_filter.2 ⟨hc, by simp; rintro rfl; exact this (by simp)⟩
  | stp s' o' h4 hs =>
    have hI := h.oi h4
    cases hs with
    | take c2 h0 hs hz hc2 => exact List.mem_append.2 (.inl hc)
    | link h0 => exact List.mem_filter.2 ⟨hc, by simpa using hn (hI.two h0).2.1⟩
    | leave => exact hc
    | found => exact hc
    | pass => exact hc
    | late => exact hc
    | raise => exact hc
    | slip => exact hc
theorem ks_fset {j l y : Nat} : ks (s.fset j l y) = ks s := by
  unfold ks Sl.fset
  exact ks_set rfl
theorem ans_tw (o : Opm) (s : Sl) (i : Nat) (had : Bool) : (o.ans s i had).tw = o.tw := rfl
theorem rose_tw (o : Opm) (s : Sl) : (o.rose s).tw = o.tw := by
  unfold Opm.rose; split <;> rfl
theorem left_tw (o : Opm) (s : Sl) (g : Nat) : (o.left s g).tw = o.tw := by
  unfold Opm.left; repeat' split
  all_goals rfl
theorem Sq.ks (h : Run s x o) (hs : Sq z s o s' o') : (o'.tw = o.tw ∧ ks s' = ks s ∧ s'.tw.length = s.tw.length) ∨ (o.tw = 0 ∧ o'.tw = s.tw.length ∧ Go.Proofs.YtopihgdbfhiejaaDoor.ks s' = Go.Proofs.YtopihgdbfhiejaaDoor.ks s ++ [(x.key, x.ref, hgt x.h)] ∧ s'.tw.length = s.tw.length + 1 ∧ okd x = 2) := by
  cases hs with
  | give c2 rest h0 ec => exact .inl ⟨rfl, rfl, rfl⟩
  | stp s' o' h4 hs =>
    have hI := h.oi h4
    cases hs with
    | take c2 => exact .inl ⟨rfl, rfl, rfl⟩
    | link h0 hl =>
      obtain ⟨t1, t2, t3, t4, t5⟩ := hI.two h0
      have hk2 : okd x = 2 := by rw [← h.kd]; exact t3
      obtain ⟨e1, e2⟩ := h.h hk2
      refine .inr ⟨t2, by rw [rose_tw], ?_, linked_len, hk2⟩
      rw [ks_linked, h.k, e2, hl, e1]
    | leave => exact .inl ⟨left_tw _ _ _, rfl, rfl⟩
    | found => exact .inl ⟨rfl, rfl, rfl⟩
    | pass => exact .inl ⟨rfl, rfl, rfl⟩
    | late => exact .inl ⟨rfl, rfl, rfl⟩
    | raise => exact .inl ⟨rose_tw _ _, ks_raised, raised_len⟩
    | slip => exact .inl ⟨rfl, ks_fset, fset_len⟩
/-- Whose a spare cell is. -/
theorem Sq.spl (h : Run s x o) (hs : Sq z s o s' o') {c : Nat} (hc : c ∈ s'.sp) : (c ∈ s.sp ∧ (o.tw = 0 → c ∈ o.cs → o'.st ≠ 5 ∧ o'.tw = 0 ∧ c ∈ o'.cs)) ∨ (o'.st ≠ 5 ∧ o'.tw = 0 ∧ c ∈ o'.cs) := by
  cases hs with
  | give c2 rest h0 ec =>
    have q := List.mem_filter.1 hc
    refine .inl ⟨q.1, fun t hcs => ?_⟩
    rw [ec] at hcs
    have hr : c ∈ rest := by
      rcases List.mem_cons.1 hcs with e | e
      · have := q.2; rw [e] at this; simp at this
      · exact e
    have hl : ¬ rest.length = 0 := fun e => by rw [List.length_eq_zero_iff.1 e] at hr; cases hr
    exact ⟨by show (if rest.length = 0 then 5 else 4) ≠ 5; rw [if_neg hl]; decide, t, hr⟩
  | stp s' o' h4 hs =>
    have hI := h.oi h4
    cases hs with
    | take c2 h0 =>
      obtain ⟨t1, t2, t3, t4, t5⟩ := hI.two h0
      rcases List.mem_append.1 hc with q | q
      · exact .inl ⟨q, fun t hcs => ⟨by show o.st ≠ 5; omega, t, List.mem_append.2 (.inl hcs)⟩⟩
      · exact .inr ⟨by show o.st ≠ 5; omega, t2, List.mem_append.2 (.inr q)⟩
    | link h0 =>
      have q := List.mem_filter.1 hc
      exact .inl ⟨q.1, fun _ hcs => absurd hcs (by simpa using q.2)⟩
    | leave h0 ht =>
      refine .inl ⟨hc, fun t hcs => ?_⟩
      have hk2 : o.kind = 2 := by
        by_cases q : okd x = 2
        · rw [h.kd]; exact q
        · rw [(h.h0 q).2.1] at hcs; cases hcs
      have e0 : (o.seen (nmo s o)).left s (too s o) = if o.lv ≠ 0 then { o.seen (nmo s o) with lv := o.lv - 1, pt := upd o.pt (o.lv - 1) (o.pt o.lv) } else { o.seen (nmo s o) with st := 2 } := by
        unfold Opm.left
        rw [if_neg (show ¬ (o.seen (nmo s o)).tw ≠ 0 from fun q => q t)]
        show (if o.lv ≠ 0 then _ else if o.kind = 0 then _ else if o.kind = 1 then _ else if o.full = true then _ else _) = _
        rw [h.full, hk2]
        rfl
      rw [e0]
      split
      · exact ⟨by show o.st ≠ 5; omega, t, hcs⟩
      · exact ⟨by show (2 : Nat) ≠ 5; decide, t, hcs⟩
    | found h0 ht hk =>
      refine .inl ⟨hc, fun t hcs => ?_⟩
      rw [ans_sp (o.seen (nmo s o)) s (too s o) true (h.cs t).1]
      have hl : ¬ o.cs.length = 0 := fun e => by rw [List.length_eq_zero_iff.1 e] at hcs; cases hcs
      exact ⟨by show (if o.cs.length = 0 then 5 else 4) ≠ 5; rw [if_neg hl]; decide, t, hcs⟩
    | pass h0 => exact .inl ⟨hc, fun t hcs => ⟨by show o.st ≠ 5; omega, t, hcs⟩⟩
    | late h0 => exact .inl ⟨hc, fun t hcs => ⟨by show (1 : Nat) ≠ 5; decide, t, hcs⟩⟩
    | raise h0 => exact .inl ⟨hc, fun t => absurd t (hI.thr h0)⟩
    | slip h0 => exact .inl ⟨hc, fun t => absurd t (hI.thr h0)⟩
/-- Which cells it has behind its step. -/
theorem Sq.csl (h : Run s x o) (hs : Sq z s o s' o') {c : Nat} (ht : o'.tw = 0) (hc : c ∈ o'.cs) : o.tw = 0 ∧ (c ∈ o.cs ∨ c ∉ s.cells) := by
  have hk := hs.ks h
  have htw : o.tw = 0 := by
    rcases hk with q | q
    · rw [← q.1]; exact ht
    · exact q.1
  refine ⟨htw, ?_⟩
  cases hs with
  | give c2 rest h0 ec => left; rw [ec]; exact List.mem_cons_of_mem _ hc
  | stp s' o' h4 hs =>
    have hI := h.oi h4
    cases hs with
    | take c2 h0 _ _ hc2 =>
      rcases List.mem_append.1 hc with q | q
      · exact .inl q
      · simp at q; subst q; exact .inr hc2
    | link h0 hl hn =>
      rw [rose_tw] at ht
      have : s.tw.length = 0 := ht
      have := (hI.pt 0 (by rw [(hI.two h0).1]; exact Nat.le_refl _) (by decide)).1
      omega
    | leave h0 =>
      left
      have : ∀ c, c ∈ ((o.seen (nmo s o)).left s (too s o)).cs → c ∈ o.cs := by
        intro c hc
        unfold Opm.left at hc
        split at hc
        · exact hc
        · split at hc
          · exact hc
          · split at hc
            · exact (List.mem_filter.1 hc).1
            · split at hc
              · exact (List.mem_filter.1 hc).1
              · split at hc
                · exact (List.mem_filter.1 hc).1
                · exact hc
      exact this c hc
    | found h0 => exact .inl (List.mem_filter.1 hc).1
    | pass h0 => exact .inl hc
    | late h0 => exact .inl hc
    | raise h0 => exact absurd htw (hI.thr h0)
    | slip h0 => exact .inl hc
theorem Fed.key (h : Fed s x o) (hf : o.fk ≠ .empty) : ∃ j, 1 ≤ j ∧ j < s.tw.length ∧ (s.at j).k = o.fk := by
  rcases h.ans with q | q | q | q
  · exact ⟨o.tw, q.2.1.lt.1, q.2.1.lt.2, by rw [q.2.1.k, q.2.2.2.1]⟩
  · obtain ⟨_, _, h2, j, h3, h4, h5, h6⟩ := q
    exact ⟨j, h3, h4, by rw [h5, h2]⟩
  · obtain ⟨_, _, _, ⟨j, h3, h4, h5, h6⟩, _⟩ := q
    exact ⟨j, h3, h4, h5⟩
  · exact absurd q.2.2.2.1 hf
end

/-- An operation behind its step. -/
def Un.went (u : Un) (o' : Opm) (B' : Nat → Prop) (cv' : Value) (t : Nat) : Un := { u with o := o', B := B', cv := cv', fin := if o'.st = 5 then some t else none }
/-- Who is under way behind a step. -/
def nowS (now : Nat → Option Nat) (u : Un) (o' : Opm) : Nat → Option Nat := fun w => if w = wkr u.x ∧ o'.st = 5 then none else now w

section
variable {s s' : Sl} {l : List Un} {now : Nat → Option Nat} {t z : Nat} {u : Un} {o' : Opm} {j : Nat} {B' : Nat → Prop} {cv' : Value}
theorem Ti.start : Ti s0 [] (fun _ => none) 0 := by
  refine ⟨?_, ?_, ?_, ?_, ?_, ?_, ?_, ?_, ?_, ?_, ?_⟩
  · intro u hu; cases hu
  · intro w j h; cases h
  · intro j u h; simp at h
  · intro i j u v c h; simp at h
  · intro c hc; simp [s0] at hc
  · intro i h1 h2; simp [s0] at h2; omega
  · intro i j u v h; simp at h
  · rfl
  · rfl
  · intro u hu; cases hu
  · intro u hu; cases hu
theorem Ui.later {t' : Nat} (h : Ui s t u) (ht : t ≤ t') : Ui s t' u :=
  ⟨by have := h.bg; omega, fun f e => by have := h.ed f e; omega, h.run, h.fed, h.nrun, h.nfed⟩
theorem Ti.later {t' : Nat} (h : Ti s l now t) (ht : t ≤ t') : Ti s l now t' :=
  ⟨fun u hu => (h.one u hu).later ht, h.nw, h.un, h.inj, h.sp, h.own, h.uni, h.hs, h.ct, h.ord, h.hb⟩
theorem Ui.owns (h : Ui s t u) (hw : u.o.tw ≠ 0) : Own s u.x u.o.tw := by
  cases hb : bad u.x with
  | true =>
    cases hf : u.fin with
    | none => rw [h.nrun hf hb] at hw; exact absurd (opA_tw u.x).1 hw
    | some f =>
      rw [h.nfed (by rw [hf]; rfl) hb] at hw
      exact absurd (opA_tw u.x).1 hw
  | false =>
    cases hf : u.fin with
    | none => exact ((h.run hf hb).tw hw).1
    | some f =>
      rcases (h.fed (by rw [hf]; rfl) hb).ans with q | q | q | q
      · exact q.2.1
      · exact absurd q.1 hw
      · exact absurd q.1 hw
      · exact absurd q.1 hw
theorem Ui.good0 (h : Ui s t u) (hf : u.fin.isSome = true) (hc : u.o.code = 0) : bad u.x = false := by
  cases hb : bad u.x with
  | false => rfl
  | true =>
    rw [h.nfed hf hb] at hc
    have : (100 : Int) = 0 := hc
    omega

theorem Ti.step (h : Ti s l now t) (hj : l[j]? = some u) (hf : u.fin = none) (hg : bad u.x = false) (hs : Sq z s u.o s' o') (hok : s.ok) (hok' : s'.ok) (hnd : s.cells.Nodup) (hlt : ∀ v ∈ l, ∀ b, v.fin = some b → b < t) :
    Ti s' (l.set j (u.went o' B' cv' t)) (nowS now u o') t := by
  have hu := h.one u (List.mem_of_getElem? hj)
  have hr := hu.run hf hg
  obtain ⟨S1, S2⟩ := hr.step hok hok' hnd hs
  have g := hs.grw hr
  have hnow := h.un j u hj hf
  have hfin : (u.went o' B' cv' t).fin = if o'.st = 5 then some t else none := rfl
  have hks := hs.ks hr
  have hother : ∀ i v, i ≠ j → l[i]? = some v → Ui s' t v := fun i v hi hv => by
    have hvu := h.one v (List.mem_of_getElem? hv)
    refine ⟨hvu.bg, hvu.ed, fun hfv hgv => ?_, fun hfv hgv => (hvu.fed hfv hgv).grw g, hvu.nrun, hvu.nfed⟩
    have rv := hvu.run hfv hgv
    refine rv.other g (fun q => hs.lk hr (rv.tw q).1.lt.2 (fun e => hi (h.uni i j v u hv hj q e))) (fun q c hc => hs.sp_keep hr ((rv.cs q).1 c hc) (fun q2 q3 => hi (h.inj i j v u c hv hj hfv hf q q2 hc q3)))
  have hown : Ui s' t (u.went o' B' cv' t) := by
    refine ⟨hu.bg, fun f e => ?_, fun e _ => ?_, fun e _ => ?_, fun _ q => absurd (show bad u.x = true from q) (by rw [hg]; decide), fun _ q => absurd (show bad u.x = true from q) (by rw [hg]; decide)⟩
    · rw [hfin] at e
      split at e
      · cases e; exact ⟨hu.bg, Nat.le_refl _⟩
      · cases e
    · rw [hfin] at e
      split at e
      · cases e
      · rename_i h3; exact S1 h3
    · rw [hfin] at e
      split at e
      · rename_i h3; exact (S2 h3).1
      · cases e
  have hall : ∀ v ∈ l.set j (u.went o' B' cv' t), Ui s' t v := fun v hv => by
    rcases set_mem hj hv with e | ⟨i, hi, h1⟩
    · rw [e]; exact hown
    · exact hother i v hi h1
  have hkeep : ∀ v ∈ l, ∃ v' ∈ l.set j (u.went o' B' cv' t), v'.x = v.x ∧ v'.beg = v.beg ∧ (v.o.tw ≠ 0 → v'.o.tw = v.o.tw) := fun v hv => by
    obtain ⟨i, hi⟩ := List.getElem?_of_mem hv
    by_cases e : i = j
    · subst e
      rw [hj] at hi; cases hi
      refine ⟨_, List.mem_of_getElem? (set_new hj), rfl, rfl, fun q => ?_⟩
      rcases hks with k | k
      · exact k.1
      · exact absurd k.1 q
    · exact ⟨v, List.mem_of_getElem? (set_old e hi), rfl, rfl, fun _ => rfl⟩
  have hown2 : ∀ i, 1 ≤ i → i < s'.tw.length → ∃ v ∈ l.set j (u.went o' B' cv' t), v.o.tw = i := fun i h1 hi => by
    rcases hks with ⟨k1, k2, k3⟩ | ⟨k1, k2, k3, k4, k5⟩
    · obtain ⟨v, hv, hw⟩ := h.own i h1 (by omega)
      obtain ⟨v', hv', _, _, q⟩ := hkeep v hv
      exact ⟨v', hv', by rw [q (by omega), hw]⟩
    · by_cases e : i = s.tw.length
      · exact ⟨_, List.mem_of_getElem? (set_new hj), k2.trans e.symm⟩
      · obtain ⟨v, hv, hw⟩ := h.own i h1 (by omega)
        obtain ⟨v', hv', _, _, q⟩ := hkeep v hv
        exact ⟨v', hv', by rw [q (by omega), hw]⟩
  refine ⟨hall, fun w i hi => ?_, fun i v hi hfv => ?_, fun a b v y c ha hb hfv hfy tv ty hcv hcy => ?_, fun c hc => ?_, hown2, fun a b v y ha hb hv he => ?_, ?_, ?_, fun v hv y hy a b ha hb hab hgv hcy hfy => ?_, fun v hv a ha hcv hfv => ?_⟩
  · unfold nowS at hi
    split at hi
    · cases hi
    · rename_i hn
      obtain ⟨v, h1, h2, h3⟩ := h.nw w i hi
      by_cases e : i = j
      · subst e
        rw [hj] at h1; cases h1
        refine ⟨_, set_new hj, ?_, h3⟩
        rw [hfin, if_neg (fun q => hn ⟨h3.symm, q⟩)]
      · exact ⟨v, set_old e h1, h2, h3⟩
  · rcases set_get hj hi with ⟨e1, e2⟩ | ⟨e1, e2⟩
    · subst e1 e2
      have hn3 : ¬ o'.st = 5 := fun q => by rw [hfin, if_pos q] at hfv; cases hfv
      unfold nowS
      rw [if_neg (fun q => hn3 q.2)]
      exact hnow
    · have hv := h.un i v e2 hfv
      unfold nowS
      rw [if_neg]
      · exact hv
      · rintro ⟨q, -⟩
        rw [q, hnow] at hv
        exact e1 (Option.some.inj hv).symm
  · have hcell : ∀ i v, l[i]? = some v → i ≠ j → v.fin = none → v.o.tw = 0 → c ∈ v.o.cs → o'.tw = 0 → c ∈ o'.cs → False := fun i v hv hi hfv tv hcv t2 hc2 => by
      obtain ⟨q1, q2⟩ := hs.csl hr t2 hc2
      rcases q2 with q | q
      · exact hi (h.inj i j v u c hv hj hfv hf tv q1 hcv q)
      · have hvu := h.one v (List.mem_of_getElem? hv)
        cases hgx : bad v.x with
        | false => exact q (sp_cells (((hvu.run hfv hgx).cs tv).1 c hcv))
        | true => rw [hvu.nrun hfv hgx, (opA_tw v.x).2] at hcv; cases hcv
    rcases set_get hj ha with ⟨e1, e2⟩ | ⟨e1, e2⟩ <;> rcases set_get hj hb with ⟨e3, e4⟩ | ⟨e3, e4⟩
    · rw [e1, e3]
    · subst e2
      exact (hcell b y e4 e3 hfy ty hcy tv hcv).elim
    · subst e4
      exact (hcell a v e2 e1 hfv tv hcv ty hcy).elim
    · exact h.inj a b v y c e2 e4 hfv hfy tv ty hcv hcy
  · have hnew : (o'.st ≠ 5 ∧ o'.tw = 0 ∧ c ∈ o'.cs) → ∃ v ∈ l.set j (u.went o' B' cv' t), v.fin = none ∧ v.o.tw = 0 ∧ c ∈ v.o.cs := fun q => ⟨_, List.mem_of_getElem? (set_new hj), by rw [hfin, if_neg q.1], q.2⟩
    rcases hs.spl hr hc with ⟨q1, q2⟩ | q
    · obtain ⟨v, hv, h1, h2, h3⟩ := h.sp c q1
      obtain ⟨i, hi⟩ := List.getElem?_of_mem hv
      by_cases e : i = j
      · subst e
        rw [hj] at hi; cases hi
        exact hnew (q2 h2 h3)
      · exact ⟨v, List.mem_of_getElem? (set_old e hi), h1, h2, h3⟩
    · exact hnew q
  · rcases set_get hj ha with ⟨e1, e2⟩ | ⟨e1, e2⟩ <;> rcases set_get hj hb with ⟨e3, e4⟩ | ⟨e3, e4⟩
    · rw [e1, e3]
    · subst e2
      have he : o'.tw = y.o.tw := he
      have hw : o'.tw ≠ 0 := hv
      have hyl := ((h.one y (List.mem_of_getElem? e4)).owns (by rw [← he]; exact hw)).lt.2
      rcases hks with k | k
      · rw [k.1] at he hw
        exact absurd (h.uni b j y u e4 hj (by rw [← he]; exact hw) he.symm) e3
      · omega
    · subst e4
      have he : v.o.tw = o'.tw := he
      have hvl := ((h.one v (List.mem_of_getElem? e2)).owns hv).lt.2
      rcases hks with k | k
      · rw [k.1] at he
        exact absurd (h.uni a j v u e2 hj hv he) e1
      · omega
    · exact h.uni a b v y e2 e4 hv he
  · have h1 := h.hs
    have h2 := hh_set (u0 := u.went o' B' cv' t) hj
    rcases hks with ⟨k1, k2, k3⟩ | ⟨k1, k2, k3, k4, k5⟩
    · rw [k2]
      have : (u.went o' B' cv' t).hh = u.hh := by show (if o'.tw = 0 then 0 else hgt u.x.h) = if u.o.tw = 0 then 0 else hgt u.x.h; rw [k1]
      omega
    · rw [k3, List.map_append, List.sum_append]
      have e1 : u.hh = 0 := by show (if u.o.tw = 0 then 0 else hgt u.x.h) = 0; rw [if_pos k1]
      have hn1 := hok.n1
      have e2 : (u.went o' B' cv' t).hh = hgt u.x.h := by show (if o'.tw = 0 then 0 else hgt u.x.h) = _; rw [if_neg (by omega)]
      simp only [List.map_cons, List.map_nil, List.sum_cons, List.sum_nil]
      omega
  · have h1 := h.ct
    have h2 := filter_set (p := fun u : Un => decide (u.o.tw ≠ 0)) (u0 := u.went o' B' cv' t) hj
    have hn1 := hok.n1
    rcases hks with ⟨k1, k2, k3⟩ | ⟨k1, k2, k3, k4, k5⟩
    · have : decide ((u.went o' B' cv' t).o.tw ≠ 0) = decide (u.o.tw ≠ 0) := by rw [show (u.went o' B' cv' t).o.tw = u.o.tw from k1]
      rw [this] at h2
      omega
    · rw [if_neg (by simp [k1]), if_pos (by show decide (o'.tw ≠ 0) = true; rw [k2]; exact decide_eq_true (by omega))] at h2
      omega
  · rcases set_mem hj hv with e1 | ⟨i1, e1, h1⟩ <;> rcases set_mem hj hy with e2 | ⟨i2, e2, h2⟩
    · subst e1 e2; rw [ha] at hb; cases hb; omega
    · subst e1
      rw [hfin] at ha
      split at ha
      · rename_i h3
        have hys := hother i2 y e2 h2
        obtain ⟨jx, q1, q2, q3⟩ := (hys.fed (by rw [hb]; rfl) (hys.good0 (by rw [hb]; rfl) hcy)).key hfy
        have := (S2 h3).2 jx q1 q2
        rw [q3] at this
        exact this
      · cases ha
    · subst e2
      have hd := hlt v (List.mem_of_getElem? h1) a ha
      rw [hfin] at hb
      split at hb
      · cases hb; omega
      · cases hb
    · exact h.ord v (List.mem_of_getElem? h1) y (List.mem_of_getElem? h2) a b ha hb hab hgv hcy hfy
  · rcases set_mem hj hv with e1 | ⟨i1, e1, h1⟩
    · subst e1
      rw [hfin] at ha
      split at ha
      · rename_i h3
        cases ha
        obtain ⟨jx, q1, q2, q3⟩ := (S2 h3).1.key hfv
        obtain ⟨y, hy, hw⟩ := hown2 jx q1 q2
        have ho := (hall y hy).owns (by omega)
        exact ⟨y, hy, by omega, by rw [← ho.k, hw, q3]; rfl, (hall y hy).bg⟩
      · cases ha
    · obtain ⟨y, hy, q1, q2, q3⟩ := h.hb v (List.mem_of_getElem? h1) a ha hcv hfv
      obtain ⟨y', hy', r1, r2, r3⟩ := hkeep y hy
      exact ⟨y', hy', by rw [r3 q1]; exact q1, by rw [r1]; exact q2, by rw [r2]; exact q3⟩

/-- A step of one that is refused. -/
theorem Ti.stepBad (h : Ti s l now t) (hj : l[j]? = some u) (hf : u.fin = none) (hg : bad u.x = true) : Ti s (l.set j (u.went { u.o with code := 100, st := 5 } B' cv' t)) (nowS now u { u.o with code := 100, st := 5 }) t := by
  obtain ⟨u0, hu0⟩ : ∃ u0, u0 = u.went { u.o with code := 100, st := 5 } B' cv' t := ⟨_, rfl⟩
  have f0 : u0.fin = some t := by rw [hu0]; rfl
  have x0 : u0.x = u.x := by rw [hu0]; rfl
  have b0 : u0.beg = u.beg := by rw [hu0]; rfl
  have c0 : u0.o.code = 100 := by rw [hu0]; rfl
  have hu := h.one u (List.mem_of_getElem? hj)
  have huo := hu.nrun hf hg
  have w0 : u0.o.tw = 0 := by rw [hu0]; show u.o.tw = 0; rw [huo]; exact (opA_tw u.x).1
  have w1 : u.o.tw = 0 := by rw [huo]; exact (opA_tw u.x).1
  have hnow := h.un j u hj hf
  rw [← hu0]
  have hkeep : ∀ v ∈ l, v.o.tw ≠ 0 → v ∈ l.set j u0 := fun v hv hw => by
    obtain ⟨i, hi⟩ := List.getElem?_of_mem hv
    have : i ≠ j := fun e => by subst e; rw [hj] at hi; cases hi; exact hw w1
    exact List.mem_of_getElem? (set_old this hi)
  refine ⟨fun v hv => ?_, fun w i hi => ?_, fun i v hi hfv => ?_, fun a b v y c ha hb hfv hfy tv ty hcv hcy => ?_, fun c hc => ?_, fun i h1 hi => ?_, fun a b v y ha hb hv he => ?_, ?_, ?_, fun v hv y hy a b ha hb hab hgv hcy hfy => ?_, fun v hv a ha hcv hfv => ?_⟩
  · rcases set_mem hj hv with e | ⟨i, hi, h1⟩
    · subst e
      refine ⟨by rw [b0]; exact hu.bg, fun f e => ?_, fun e => (by rw [f0] at e; cases e), fun _ q => absurd (show bad v.x = false from q) (by rw [x0, hg]; decide), fun e => (by rw [f0] at e; cases e), fun _ _ => ?_⟩
      · rw [f0] at e; cases e
        exact ⟨by rw [b0]; exact hu.bg, Nat.le_refl _⟩
      · rw [hu0]; show ({ u.o with code := 100, st := 5 } : Opm) = { opA u.x with code := 100, st := 5 }; rw [huo]
    · exact h.one v (List.mem_of_getElem? h1)
  · unfold nowS at hi
    split at hi
    · cases hi
    · rename_i hn
      obtain ⟨v, h1, h2, h3⟩ := h.nw w i hi
      by_cases e : i = j
      · subst e
        rw [hj] at h1; cases h1
        exact absurd ⟨h3.symm, rfl⟩ hn
      · exact ⟨v, set_old e h1, h2, h3⟩
  · rcases set_get hj hi with ⟨e1, e2⟩ | ⟨e1, e2⟩
    · rw [e2, f0] at hfv; cases hfv
    · have hv := h.un i v e2 hfv
      unfold nowS
      rw [if_neg]
      · exact hv
      · rintro ⟨q, -⟩
        rw [q, hnow] at hv
        exact e1 (Option.some.inj hv).symm
  · rcases set_get hj ha with ⟨e1, e2⟩ | ⟨e1, e2⟩
    · rw [e2, f0] at hfv; cases hfv
    · rcases set_get hj hb with ⟨e3, e4⟩ | ⟨e3, e4⟩
      · rw [e4, f0] at hfy; cases hfy
      · exact h.inj a b v y c e2 e4 hfv hfy tv ty hcv hcy
  · obtain ⟨v, hv, h1, h2, h3⟩ := h.sp c hc
    obtain ⟨i, hi⟩ := List.getElem?_of_mem hv
    have : i ≠ j := fun e => by
      subst e
      rw [hj] at hi; cases hi
      rw [huo, (opA_tw u.x).2] at h3; cases h3
    exact ⟨v, List.mem_of_getElem? (set_old this hi), h1, h2, h3⟩
  · obtain ⟨v, hv, hw⟩ := h.own i h1 hi
    exact ⟨v, hkeep v hv (by omega), hw⟩
  · rcases set_get hj ha with ⟨e1, e2⟩ | ⟨e1, e2⟩
    · rw [e2, w0] at hv; exact absurd rfl hv
    · rcases set_get hj hb with ⟨e3, e4⟩ | ⟨e3, e4⟩
      · rw [e4, w0] at he; exact absurd he hv
      · exact h.uni a b v y e2 e4 hv he
  · have h1 := h.hs
    have h2 := hh_set (u0 := u0) hj
    have e1 : u.hh = 0 := by show (if u.o.tw = 0 then 0 else _) = 0; rw [if_pos w1]
    have e2 : u0.hh = 0 := by show (if u0.o.tw = 0 then 0 else _) = 0; rw [if_pos w0]
    omega
  · have h1 := h.ct
    have h2 := filter_set (p := fun u : Un => decide (u.o.tw ≠ 0)) (u0 := u0) hj
    rw [if_neg (by simp [w1]), if_neg (by simp [w0])] at h2
    omega
  · rcases set_mem hj hv with e1 | ⟨i1, e1, h1⟩
    · rw [e1, x0, hg] at hgv; cases hgv
    · rcases set_mem hj hy with e2 | ⟨i2, e2, h2⟩
      · rw [e2, c0] at hcy; omega
      · exact h.ord v (List.mem_of_getElem? h1) y (List.mem_of_getElem? h2) a b ha hb hab hgv hcy hfy
  · rcases set_mem hj hv with e1 | ⟨i1, e1, h1⟩
    · rw [e1, c0] at hcv; omega
    · obtain ⟨y, hy, q1, q2, q3⟩ := h.hb v (List.mem_of_getElem? h1) a ha hcv hfv
      exact ⟨y, hkeep y hy q1, q1, q2, q3⟩

/-- A new operation. -/
theorem Ti.begun (h : Ti s l now t) (hok : s.ok) {x : AskR} {b : Nat} {B : Nat → Prop} {cv : Value} (hw : now (wkr x) = none) (hnw : ∀ w j, now w = some j → j < l.length) :
    Ti s (l ++ [⟨x, opA x, b, B, cv, t, none⟩]) (fun w => if w = wkr x then some l.length else now w) t := by
  obtain ⟨u0, hu0⟩ : ∃ u : Un, u = ⟨x, opA x, b, B, cv, t, none⟩ := ⟨_, rfl⟩
  have f0 : u0.fin = none := by rw [hu0]
  have x0 : u0.x = x := by rw [hu0]
  have o0 : u0.o = opA x := by rw [hu0]
  have w0 : u0.o.tw = 0 := by rw [o0]; exact (opA_tw x).1
  have c0 : u0.o.cs = [] := by rw [o0]; exact (opA_tw x).2
  rw [← hu0]
  have hmem : ∀ u, u ∈ l ++ [u0] ↔ u ∈ l ∨ u = u0 := fun u => by simp
  have hget : ∀ j u, (l ++ [u0])[j]? = some u → l[j]? = some u ∨ (j = l.length ∧ u = u0) := fun j u hj => by
    rw [List.getElem?_append] at hj
    split at hj
    · exact .inl hj
    · rename_i hlt
      have : j - l.length = 0 := by
        rcases Nat.eq_zero_or_pos (j - l.length) with q | q
        · exact q
        · rw [List.getElem?_eq_none (by simp; omega)] at hj; cases hj
      rw [this] at hj
      simp at hj
      exact .inr ⟨by omega, hj.symm⟩
  refine ⟨fun u hu => ?_, fun w j hj => ?_, fun j u hj hf => ?_, fun i j u v c hi hj hf hg tu tv hc hd => ?_, fun c hc => ?_, fun i h1 hi => ?_, fun i j u v hi hj hv he => ?_, ?_, ?_, fun u hu v hv a b' ha hb' hab hg hc hfk => ?_, fun u hu a ha hc hfk => ?_⟩
  · rcases (hmem u).1 hu with h1 | h1
    · exact h.one u h1
    · subst h1
      refine ⟨by rw [hu0]; exact Nat.le_refl _, fun f e => (by rw [f0] at e; cases e), fun _ hg => ?_, fun e => (by rw [f0] at e; cases e), fun _ hg => ?_, fun e => (by rw [f0] at e; cases e)⟩
      · rw [x0] at hg; rw [x0, o0]; exact opA_run hok x hg
      · rw [x0, o0]
  · by_cases e : w = wkr x
    · rw [if_pos e] at hj
      cases hj
      exact ⟨u0, by simp, f0, by rw [x0, e]⟩
    · rw [if_neg e] at hj
      obtain ⟨u, h1, h2⟩ := h.nw w j hj
      exact ⟨u, by rw [List.getElem?_append_left (hnw w j hj)]; exact h1, h2⟩
  · rcases hget j u hj with h1 | ⟨h1, h2⟩
    · have := h.un j u h1 hf
      rw [if_neg]
      · exact this
      · intro e; rw [e, hw] at this; cases this
    · rw [h2, x0, if_pos rfl, h1]
  · rcases hget i u hi with h1 | ⟨h1, h2⟩
    · rcases hget j v hj with h3 | ⟨h3, h4⟩
      · exact h.inj i j u v c h1 h3 hf hg tu tv hc hd
      · rw [h4, c0] at hd; cases hd
    · rw [h2, c0] at hc; cases hc
  · obtain ⟨u, hu, h1⟩ := h.sp c hc
    exact ⟨u, (hmem u).2 (.inl hu), h1⟩
  · obtain ⟨u, hu, h2⟩ := h.own i h1 hi
    exact ⟨u, (hmem u).2 (.inl hu), h2⟩
  · rcases hget i u hi with h1 | ⟨h1, h2⟩
    · rcases hget j v hj with h3 | ⟨h3, h4⟩
      · exact h.uni i j u v h1 h3 hv he
      · rw [h4, w0] at he; exact absurd he hv
    · rw [h2, w0] at hv; exact absurd rfl hv
  · rw [List.map_append, List.sum_append]
    have : u0.hh = 0 := by show (if u0.o.tw = 0 then 0 else _) = 0; rw [if_pos w0]
    simp [this]; exact h.hs
  · rw [List.filter_append, List.length_append]
    have : ([u0].filter fun u => decide (u.o.tw ≠ 0)) = [] := by simp [w0]
    rw [this]; simpa using h.ct
  · rcases (hmem u).1 hu with h1 | h1
    · rcases (hmem v).1 hv with h2 | h2
      · exact h.ord u h1 v h2 a b' ha hb' hab hg hc hfk
      · rw [h2, f0] at hb'; cases hb'
    · rw [h1, f0] at ha; cases ha
  · rcases (hmem u).1 hu with h1 | h1
    · obtain ⟨v, hv, h2⟩ := h.hb u h1 a ha hc hfk
      exact ⟨v, (hmem v).2 (.inl hv), h2⟩
    · rw [h1, f0] at ha; cases ha
/-- How many cells are taken at most. -/
theorem nodup_leN : ∀ (ss M : List Nat), ss.Nodup → (∀ x ∈ ss, x ∈ M) → ss.length ≤ M.length := by
  intro ss
  induction ss with
  | nil => intro M _ _; exact Nat.zero_le _
  | cons y ys ih =>
    intro M hn hs
    obtain ⟨n1, n2⟩ := List.nodup_cons.1 hn
    have hy := hs y (by simp)
    have := ih (M.erase y) n2 (fun x hx => (List.mem_erase_of_ne (fun q => n1 (by rw [← q]; exact hx))).2 (hs x (by simp [hx])))
    rw [List.length_erase_of_mem hy] at this
    have := List.length_pos_of_mem hy
    simp only [List.length_cons]
    omega
theorem Ti.room (h : Ti s l now t) (hnd : s.cells.Nodup) : s.cells.length ≤ 8 + 8 * l.length := by
  rw [cells_len, h.hs]
  have h3 : s.sp.length ≤ (l.flatMap fun u => if u.o.tw = 0 ∧ u.fin = none then u.o.cs else []).length := nodup_leN _ _ (List.nodup_append.1 hnd).2.1 (fun c hc => by
    obtain ⟨u, hu, h1, h2, h3⟩ := h.sp c hc
    exact List.mem_flatMap.2 ⟨u, hu, by rw [if_pos ⟨h2, h1⟩]; exact h3⟩)
  have key : ∀ l : List Un, (∀ u ∈ l, Ui s t u) → (l.map Un.hh).sum + (l.flatMap fun u => if u.o.tw = 0 ∧ u.fin = none then u.o.cs else []).length ≤ 8 * l.length := by
    intro l
    induction l with
    | nil => intro _; simp
    | cons u l ih =>
      intro ha
      have h1 := ih (fun v hv => ha v (by simp [hv]))
      have hu := ha u (by simp)
      rw [List.map_cons, List.sum_cons, List.flatMap_cons, List.length_append, List.length_cons]
      have hg := hgt_bd u.x.h
      have : u.hh + (if u.o.tw = 0 ∧ u.fin = none then u.o.cs else []).length ≤ 8 := by
        unfold Un.hh
        by_cases q : u.o.tw = 0
        · rw [if_pos q]
          by_cases q2 : u.fin = none
          · rw [if_pos ⟨q, q2⟩]
            cases hb : bad u.x with
            | true => rw [hu.nrun q2 hb, (opA_tw u.x).2]; simp
            | false =>
              have hr := hu.run q2 hb
              have := (hr.cs q).2.2
              by_cases k : okd u.x = 2
              · have := (hr.h k).1; omega
              · rw [(hr.h0 k).2.1]; simp
          · rw [if_neg (fun c => q2 c.2)]; simp
        · rw [if_neg q, if_neg (fun c => q c.1)]; simp; omega
      omega
  have := key l h.one
  omega
end
end

section
open Go.RowKit Go.Maps

/-- On how many levels towers are linked. -/
def lks (s : Sl) : Nat := (s.tw.map Tw.lk).sum
/-- The keys and what stands behind them are the same. -/
structure Sam (s s' : Sl) : Prop where
  len : s'.tw.length = s.tw.length
  k : ∀ i, (s'.at i).k = (s.at i).k
  ns : ∀ i, (s'.at i).ns = (s.at i).ns
def lev (s : Sl) (o : Opm) (l : Nat) : Nat := if o.pn l = (s.at (o.pt l)).ns l then 1 else cnt s (o.pt l) o.k + 3
def tau (s : Sl) (o : Opm) (l : Nat) : Nat := if l < o.lv then (if o.tw = 0 then 2 else 0) else if l = o.lv ∧ o.st = 1 then 2 else if l < o.h then lev s o l else 0
def sm8 (f : Nat → Nat) : Nat := f 0 + f 1 + f 2 + f 3 + f 4 + f 5 + f 6 + f 7
/-- At most so many steps are to come, if nothing is linked. -/
def cur (s : Sl) (o : Opm) : Nat :=
  if o.st = 4 then o.cs.length else if o.st = 0 then 1 else sm8 (tau s o) + (if o.st = 1 then cnt s (o.pt o.lv) o.k else 0) + (if o.tw = 0 then 2 * o.h - o.cs.length else 0)

theorem sm8_swap {f g : Nat → Nat} {A A' p : Nat} (hp : p < 8) (h : ∀ l, l < 8 → l ≠ p → g l ≤ f l) (h1 : g p + A' + 1 ≤ f p + A) : sm8 g + A' + 1 ≤ sm8 f + A := by
  have h' : ∀ l, l < 8 → l = p ∨ g l ≤ f l := fun l hl => by
    by_cases e : l = p
    · exact .inl e
    · exact .inr (h l hl e)
  have a0 := h' 0 (by decide)
  have a1 := h' 1 (by decide)
  have a2 := h' 2 (by decide)
  have a3 := h' 3 (by decide)
  have a4 := h' 4 (by decide)
  have a5 := h' 5 (by decide)
  have a6 := h' 6 (by decide)
  have a7 := h' 7 (by decide)
  unfold sm8
  rcases (show p = 0 ∨ p = 1 ∨ p = 2 ∨ p = 3 ∨ p = 4 ∨ p = 5 ∨ p = 6 ∨ p = 7 by omega) with e | e | e | e | e | e | e | e <;> subst e <;> omega
theorem sm8_le {f : Nat → Nat} {B : Nat} (h : ∀ l, l < 8 → f l ≤ B) : sm8 f ≤ 8 * B := by
  have a0 := h 0 (by decide)
  have a1 := h 1 (by decide)
  have a2 := h 2 (by decide)
  have a3 := h 3 (by decide)
  have a4 := h 4 (by decide)
  have a5 := h 5 (by decide)
  have a6 := h 6 (by decide)
  have a7 := h 7 (by decide)
  unfold sm8; omega
theorem sm8_ge {f : Nat → Nat} {p : Nat} (hp : p < 8) : f p ≤ sm8 f := by
  unfold sm8
  rcases (show p = 0 ∨ p = 1 ∨ p = 2 ∨ p = 3 ∨ p = 4 ∨ p = 5 ∨ p = 6 ∨ p = 7 by omega) with e | e | e | e | e | e | e | e <;> subst e <;> omega

section
variable {z : Nat} {s s' : Sl} {x : AskR} {o o' v : Opm}
theorem Sam.tw (h : s'.tw = s.tw) : Sam s s' := by
  have ha : ∀ x, s'.at x = s.at x := fun x => by unfold Sl.at; rw [h]
  exact ⟨by rw [h], fun i => by rw [ha], fun i => by rw [ha]⟩
theorem Sam.fset {j l y : Nat} (hj : j < s.tw.length) : Sam s (s.fset j l y) := by
  have ha := fun q => fset_at (s := s) (l := l) (x := y) hj q
  refine ⟨fset_len, fun i => ?_, fun i => ?_⟩
  · rw [ha]; split
    · rename_i e; rw [e]
    · rfl
  · rw [ha]; split
    · rename_i e; rw [e]
    · rfl
theorem cnt_sam (h : Sam s s') (i : Nat) (k : ByteArray) : cnt s' i k = cnt s i k := by
  unfold cnt
  rw [h.len]
  congr 2
  funext j
  unfold btw
  rw [h.k, h.k]
theorem tau_sam (h : Sam s s') (v : Opm) (l : Nat) : tau s' v l = tau s v l := by
  unfold tau lev
  rw [h.ns, cnt_sam h]
theorem cur_sam (h : Sam s s') (v : Opm) : cur s' v = cur s v := by
  unfold cur
  rw [cnt_sam h, show tau s' v = tau s v from funext (tau_sam h v)]
theorem lks_set {l : List Tw} {i : Nat} {t : Tw} (hi : i < l.length) : ((l.set i t).map Tw.lk).sum + (l.getD i t0).lk = (l.map Tw.lk).sum + t.lk := by
  have := sum_set (l.map Tw.lk) i t.lk (by simpa using hi)
  rw [← List.map_set] at this
  have e : (l.map Tw.lk).getD i 0 = (l.getD i t0).lk := by simp [List.getD, List.getElem?_map, List.getElem?_eq_getElem hi]
  omega
theorem lks_fset {j l y : Nat} (hj : j < s.tw.length) : lks (s.fset j l y) = lks s := by
  unfold lks Sl.fset
  have := lks_set (l := s.tw) (i := j) (t := { s.at j with fs := upd (s.at j).fs l y }) hj
  have e : (s.tw.getD j t0).lk = (s.at j).lk := rfl
  show ((s.tw.set j { s.at j with fs := upd (s.at j).fs l y }).map Tw.lk).sum = _
  have e2 : ({ s.at j with fs := upd (s.at j).fs l y } : Tw).lk = (s.at j).lk := rfl
  omega
theorem lks_linked {i : Nat} {k : ByteArray} {r : Int} {cs : List Nat} (hi : i < s.tw.length) : lks (s.linked i k r cs) = lks s + 1 := by
  unfold lks Sl.linked
  have := lks_set (l := s.tw) (i := i) (t := { s.at i with ns := upd (s.at i).ns 0 s.tw.length }) hi
  have e : (s.tw.getD i t0).lk = (s.at i).lk := rfl
  have e2 : ({ s.at i with ns := upd (s.at i).ns 0 s.tw.length } : Tw).lk = (s.at i).lk := rfl
  show ((s.tw.set i { s.at i with ns := upd (s.at i).ns 0 s.tw.length } ++ [newT s i k r cs]).map Tw.lk).sum = _
  rw [List.map_append, List.sum_append]
  show _ + (1 + 0) = _
  omega
theorem lks_raised {i j l : Nat} (hi : i < s.tw.length) (hj : j < s.tw.length) (hij : i ≠ j) (hl : (s.at j).lk = l) : lks (s.raised i j l) = lks s + 1 := by
  unfold lks Sl.raised
  have h1 := lks_set (l := s.tw) (i := i) (t := { s.at i with ns := upd (s.at i).ns l j }) hi
  have h2 := lks_set (l := s.tw.set i { s.at i with ns := upd (s.at i).ns l j }) (i := j) (t := { s.at j with fs := upd (s.at j).fs l (s.nx i l), lk := l + 1 }) (by simpa using hj)
  have e : (s.tw.getD i t0).lk = (s.at i).lk := rfl
  have e2 : ({ s.at i with ns := upd (s.at i).ns l j } : Tw).lk = (s.at i).lk := rfl
  have e3 : ((s.tw.set i { s.at i with ns := upd (s.at i).ns l j }).getD j t0).lk = (s.at j).lk := by
    rw [getD_set, if_neg (fun q => hij q.1.symm)]; rfl
  have e4 : ({ s.at j with fs := upd (s.at j).fs l (s.nx i l), lk := l + 1 } : Tw).lk = l + 1 := rfl
  show (((s.tw.set i { s.at i with ns := upd (s.at i).ns l j }).set j { s.at j with fs := upd (s.at j).fs l (s.nx i l), lk := l + 1 }).map Tw.lk).sum = _
  omega
theorem lks_le (h : s.ok) : lks s ≤ 8 * s.tw.length := by
  have key : ∀ l : List Tw, (∀ t ∈ l, t.lk ≤ 8) → (l.map Tw.lk).sum ≤ 8 * l.length := by
    intro l
    induction l with
    | nil => intro _; simp
    | cons t l ih =>
      intro ha
      have h1 := ih (fun v hv => ha v (by simp [hv]))
      have h2 := ha t (by simp)
      simp only [List.map_cons, List.sum_cons, List.length_cons]
      omega
  refine key s.tw (fun t ht => ?_)
  obtain ⟨i, hi, rfl⟩ := List.getElem_of_mem ht
  have ea : s.at i = s.tw[i] := by simp [Sl.at, List.getD, List.getElem?_eq_getElem hi]
  have := h.sh i hi
  rw [ea] at this
  omega
theorem Sq.lks (h : Run s x o) (hs : Sq z s o s' o') : (Sam s s' ∧ lks s' = lks s) ∨ Go.Proofs.YtopihgdbfhiejaaDoor.lks s' = Go.Proofs.YtopihgdbfhiejaaDoor.lks s + 1 := by
  cases hs with
  | give c rest h0 ec => exact .inl ⟨Sam.tw rfl, rfl⟩
  | stp s' o' h4 hs =>
    have hI := h.oi h4
    cases hs with
    | link h0 => exact .inr (lks_linked (hI.pt 0 (by rw [(hI.two h0).1]; exact Nat.le_refl _) (by decide)).1)
    | raise h0 =>
      obtain ⟨t1, t2, t3, t4, _⟩ := hI.tw (hI.thr h0)
      obtain ⟨p1, p2, _⟩ := hI.pt o.lv (Nat.le_refl _) hI.lv
      exact .inr (lks_raised p1 t1 (fun e => by rw [e] at p2; omega) t3)
    | slip h0 =>
      obtain ⟨t1, _⟩ := hI.tw (hI.thr h0)
      exact .inl ⟨Sam.fset t1, lks_fset t1⟩
    | leave => exact .inl ⟨Sam.tw rfl, rfl⟩
    | found => exact .inl ⟨Sam.tw rfl, rfl⟩
    | pass => exact .inl ⟨Sam.tw rfl, rfl⟩
    | take c => exact .inl ⟨Sam.tw rfl, rfl⟩
    | late => exact .inl ⟨Sam.tw rfl, rfl⟩
theorem tau_lo {l : Nat} (h : l < o.lv) : tau s o l = if o.tw = 0 then 2 else 0 := by unfold tau; rw [if_pos h]
theorem tau_at (h : o.st = 1) : tau s o o.lv = 2 := by unfold tau; rw [if_neg (Nat.lt_irrefl _), if_pos ⟨rfl, h⟩]
theorem tau_hi {l : Nat} (h : o.lv ≤ l) (h1 : ¬ (l = o.lv ∧ o.st = 1)) : tau s o l = if l < o.h then lev s o l else 0 := by unfold tau; rw [if_neg (by omega), if_neg h1]
theorem lev_same {a b : Opm} {l : Nat} (h1 : b.pn l = a.pn l) (h2 : b.pt l = a.pt l) (h3 : b.k = a.k) : lev s b l = lev s a l := by unfold lev; rw [h1, h2, h3]
theorem lev_fresh {l : Nat} (h : o.pn l = (s.at (o.pt l)).ns l) : lev s o l = 1 := by unfold lev; rw [if_pos h]
theorem lev_stale {l : Nat} (h : (s.at (o.pt l)).ns l ≠ o.pn l) : lev s o l = cnt s (o.pt l) o.k + 3 := by unfold lev; rw [if_neg (fun q => h q.symm)]
theorem cur_1 (h : o.st = 1) : cur s o = sm8 (tau s o) + cnt s (o.pt o.lv) o.k + (if o.tw = 0 then 2 * o.h - o.cs.length else 0) := by unfold cur; rw [if_neg (by omega), if_neg (by omega), if_pos h]
theorem cur_23 (h : o.st = 2 ∨ o.st = 3) : cur s o = sm8 (tau s o) + 0 + (if o.tw = 0 then 2 * o.h - o.cs.length else 0) := by unfold cur; rw [if_neg (by omega), if_neg (by omega), if_neg (by omega)]
theorem cur_4 (h : o.st = 4) : cur s o = o.cs.length := by unfold cur; rw [if_pos h]

theorem cur_leave {st : Nat} (hlv : o.lv < 8) (h0 : o.st = 1) (hst : st = 2 ∨ st = 3) {o1 : Opm} (l1 : o1.lv = o.lv) (s1 : o1.st = st) (w1 : o1.tw = o.tw) (h1 : o1.h = o.h) (c1 : o1.cs = o.cs) (k1 : o1.k = o.k) (pt : o1.pt = o.pt) (pn1 : o1.pn o.lv = nmo s o) (pn2 : ∀ l, l ≠ o.lv → o1.pn l = o.pn l) : cur s o1 + 1 ≤ cur s o := by
  rw [cur_1 h0, cur_23 (o := o1) (by omega), w1, h1, c1]
  have key : sm8 (tau s o1) + 0 + 1 ≤ sm8 (tau s o) + cnt s (o.pt o.lv) o.k := by
    refine sm8_swap (f := tau s o) (g := tau s o1) (A := cnt s (o.pt o.lv) o.k) (A' := 0) (p := o.lv) hlv (fun l hl hne => ?_) ?_
    · rcases Nat.lt_or_ge l o.lv with q | q
      · rw [tau_lo (o := o) q, tau_lo (o := o1) (by omega), w1]; exact Nat.le_refl _
      · rw [tau_hi (o := o1) (by omega) (fun c => by omega), tau_hi (o := o) q (fun c => hne c.1), h1, lev_same (a := o) (b := o1) (pn2 l hne) (by rw [pt]) k1]
        exact Nat.le_refl _
    · rw [tau_at h0, tau_hi (o := o1) (by omega) (fun c => by omega), lev_fresh (o := o1) (by rw [pn1, pt]; rfl)]
      split <;> omega
  omega
theorem cur_again {o1 : Opm} (hlv : o.lv < 8) (h0 : o.st = 2 ∨ o.st = 3) (hlh : o.lv < o.h) (hn : (s.at (o.pt o.lv)).ns o.lv ≠ o.pn o.lv) (l1 : o1.lv = o.lv) (s1 : o1.st = 1) (w1 : o1.tw = o.tw) (h1 : o1.h = o.h) (c1 : o1.cs = o.cs) (k1 : o1.k = o.k) (pt : o1.pt = o.pt) (pn : o1.pn = o.pn) : cur s o1 + 1 ≤ cur s o := by
  rw [cur_23 h0, cur_1 s1, w1, h1, c1, l1, pt, k1]
  have key : sm8 (tau s o1) + cnt s (o.pt o.lv) o.k + 1 ≤ sm8 (tau s o) + 0 := by
    refine sm8_swap (f := tau s o) (g := tau s o1) (A := 0) (A' := cnt s (o.pt o.lv) o.k) (p := o.lv) hlv (fun l hl hne => ?_) ?_
    · rcases Nat.lt_or_ge l o.lv with q | q
      · rw [tau_lo (o := o) q, tau_lo (o := o1) (by omega), w1]; exact Nat.le_refl _
      · rw [tau_hi (o := o1) (by omega) (fun c => by omega), tau_hi (o := o) q (fun c => hne c.1), h1, lev_same (a := o) (b := o1) (by rw [pn]) (by rw [pt]) k1]
        exact Nat.le_refl _
    · have e1 := tau_at (s := s) s1
      rw [l1] at e1
      rw [e1, tau_hi (o := o) (Nat.le_refl _) (fun q => by omega), if_pos hlh, lev_stale hn]
      omega
  omega

set_option maxHeartbeats 2000000 in
theorem cur_step (h : Run s x o) (hok : s.ok) (hs : Sq z s o s' o') (h5 : o'.st ≠ 5) : cur s' o' + 1 ≤ cur s o ∨ lks s' = lks s + 1 := by
  cases hs with
  | give c rest h0 ec =>
    left
    have hr : ¬ rest.length = 0 := fun e => h5 (by show (if rest.length = 0 then 5 else 4) = 5; rw [if_pos e])
    have e4 : (if rest.length = 0 then 5 else 4) = 4 := if_neg hr
    rw [cur_4 h0, cur_4 (o := { o with cs := rest, st := if rest.length = 0 then 5 else 4 }) e4, ec]
    exact Nat.le_refl _
  | stp s' o' h4 hs =>
    have hI := h.oi h4
    have hlv := hI.lv
    obtain ⟨p1, p2, p3⟩ := hI.pt o.lv (Nat.le_refl _) hlv
    cases hs with
    | link h0 => exact .inr (lks_linked (hI.pt 0 (by rw [(hI.two h0).1]; exact Nat.le_refl _) (by decide)).1)
    | raise h0 =>
      obtain ⟨t1, t2, t3, t4, _⟩ := hI.tw (hI.thr h0)
      exact .inr (lks_raised p1 t1 (fun e => by rw [e] at p2; omega) t3)
    | leave h0 ht =>
      left
      by_cases hw : o.tw = 0
      · by_cases hl0 : o.lv = 0
        · have e0 : (o.seen (nmo s o)).left s (too s o) = if o.kind = 0 then (o.seen (nmo s o)).ans s 0 false else if o.kind = 1 then (o.seen (nmo s o)).ans s (too s o) (decide (too s o ≠ 0)) else { o.seen (nmo s o) with st := 2 } := by
            unfold Opm.left
            rw [if_neg (show ¬ (o.seen (nmo s o)).tw ≠ 0 from fun q => q hw), if_neg (show ¬ (o.seen (nmo s o)).lv ≠ 0 from fun q => q hl0)]
            show (if o.kind = 0 then _ else if o.kind = 1 then _ else if o.full = true then _ else _) = _
            rw [h.full]
            rfl
          have hk2 : o.kind ≠ 0 ∧ o.kind ≠ 1 := by
            have hcs : okd x ≠ 2 → ∀ i had, ((o.seen (nmo s o)).ans s i had).st = 5 := fun q i had => (ans_nil (o.seen (nmo s o)) s i had (fun c hc => by have hc2 : c ∈ o.cs := hc; rw [(h.h0 q).2.1] at hc2; cases hc2)).1
            refine ⟨fun k0 => ?_, fun k1 => ?_⟩
            · rw [e0, if_pos k0] at h5
              exact h5 (hcs (by rw [← h.kd, k0]; decide) _ _)
            · rw [e0, if_neg (by omega), if_pos k1] at h5
              exact h5 (hcs (by rw [← h.kd, k1]; decide) _ _)
          rw [e0, if_neg hk2.1, if_neg hk2.2]
          exact cur_leave (st := 2) hlv h0 (.inl rfl) rfl rfl rfl rfl rfl rfl rfl (upd_same _ _ _) (fun l hl => upd_ne _ hl)
        · have e0 : (o.seen (nmo s o)).left s (too s o) = { o.seen (nmo s o) with lv := o.lv - 1, pt := upd o.pt (o.lv - 1) (o.pt o.lv) } := by
            unfold Opm.left
            rw [if_neg (show ¬ (o.seen (nmo s o)).tw ≠ 0 from fun q => q hw), if_pos (show (o.seen (nmo s o)).lv ≠ 0 from hl0)]
            rfl
          rw [e0]
          obtain ⟨o1, ho1⟩ : ∃ o1 : Opm, o1 = { o.seen (nmo s o) with lv := o.lv - 1, pt := upd o.pt (o.lv - 1) (o.pt o.lv) } := ⟨_, rfl⟩
          have l1 : o1.lv = o.lv - 1 := by rw [ho1]
          have s1 : o1.st = 1 := by rw [ho1]; exact h0
          have w1 : o1.tw = o.tw := by rw [ho1]; rfl
          have h1 : o1.h = o.h := by rw [ho1]; rfl
          have c1 : o1.cs = o.cs := by rw [ho1]; rfl
          have k1 : o1.k = o.k := by rw [ho1]; rfl
          have pt1 : o1.pt o1.lv = o.pt o.lv := by rw [l1, ho1]; exact upd_same _ _ _
          have pt2 : ∀ l, o.lv ≤ l → o1.pt l = o.pt l := fun l hl => by rw [ho1]; exact upd_ne _ (by omega)
          have pn1 : o1.pn o.lv = nmo s o := by rw [ho1]; exact upd_same _ _ _
          have pn2 : ∀ l, l ≠ o.lv → o1.pn l = o.pn l := fun l hl => by rw [ho1]; exact upd_ne _ hl
          rw [← ho1, cur_1 h0, cur_1 s1, pt1, k1, w1, h1, c1]
          have key : sm8 (tau s o1) + 0 + 1 ≤ sm8 (tau s o) + 0 := by
            refine sm8_swap (f := tau s o) (g := tau s o1) (A := 0) (A' := 0) (p := o.lv) hlv (fun l hl hne => ?_) ?_
            · rcases Nat.lt_or_ge l o.lv with q | q
              · rw [tau_lo (o := o) q, if_pos hw]
                by_cases e : l = o1.lv
                · rw [e, tau_at s1]; exact Nat.le_refl _
                · rw [tau_lo (o := o1) (by omega), w1, if_pos hw]; exact Nat.le_refl _
              · rw [tau_hi (o := o1) (by omega) (fun c => by omega), tau_hi (o := o) q (fun c => hne c.1), h1, lev_same (a := o) (b := o1) (pn2 l hne) (pt2 l q) k1]
                exact Nat.le_refl _
            · rw [tau_at h0, tau_hi (o := o1) (by omega) (fun c => by omega), lev_fresh (o := o1) (by rw [pn1, pt2 o.lv (Nat.le_refl _)]; rfl)]
              split <;> omega
          omega
      · have e0 : (o.seen (nmo s o)).left s (too s o) = { o.seen (nmo s o) with st := 3 } := by
          unfold Opm.left
          rw [if_pos (show (o.seen (nmo s o)).tw ≠ 0 from hw)]
        rw [e0]
        exact cur_leave (st := 3) hlv h0 (.inr rfl) rfl rfl rfl rfl rfl rfl rfl (upd_same _ _ _) (fun l hl => upd_ne _ hl)
    | found h0 ht hk =>
      left
      have hw : o.tw = 0 := by
        rcases Nat.eq_zero_or_pos o.tw with q | q
        · exact q
        · obtain ⟨t1, t2, t3, _⟩ := hI.tw (by omega)
          obtain ⟨q1, q2, q3⟩ := hok.nx _ p1 _ p2 ht
          have e := hok.one _ _ t1 q1 (t2.trans hk)
          rw [show s.nx (o.pt o.lv) o.lv = too s o from rfl] at e q2
          rw [← e] at q2
          omega
      obtain ⟨c1, c2, c3⟩ := h.cs hw
      rw [ans_sp (o.seen (nmo s o)) s (too s o) true c1] at h5 ⊢
      have hl : ¬ o.cs.length = 0 := fun e => h5 (by show (if o.cs.length = 0 then 5 else 4) = 5; rw [if_pos e])
      rw [cur_1 h0, if_pos hw, cur_4 (show (if o.cs.length = 0 then 5 else 4) = 4 from if_neg hl)]
      have := sm8_ge (f := tau s o) hlv
      rw [tau_at h0] at this
      show o.cs.length + 1 ≤ _
      omega
    | pass h0 ht hk =>
      left
      obtain ⟨q1, q2, q3⟩ := hok.nx _ p1 _ p2 ht
      have hc := cnt_pass (k := o.k) ht q1 (.inr q3) hk
      obtain ⟨o1, ho1⟩ : ∃ o1 : Opm, o1 = { o.seen (nmo s o) with pt := upd o.pt o.lv (too s o) } := ⟨_, rfl⟩
      have l1 : o1.lv = o.lv := by rw [ho1]; rfl
      have s1 : o1.st = 1 := by rw [ho1]; exact h0
      have w1 : o1.tw = o.tw := by rw [ho1]; rfl
      have h1 : o1.h = o.h := by rw [ho1]; rfl
      have c1 : o1.cs = o.cs := by rw [ho1]; rfl
      have k1 : o1.k = o.k := by rw [ho1]; rfl
      have pt1 : o1.pt o.lv = too s o := by rw [ho1]; exact upd_same _ _ _
      have pt2 : ∀ l, l ≠ o.lv → o1.pt l = o.pt l := fun l hl => by rw [ho1]; exact upd_ne _ hl
      have pn2 : ∀ l, l ≠ o.lv → o1.pn l = o.pn l := fun l hl => by rw [ho1]; exact upd_ne _ hl
      rw [← ho1, cur_1 s1, cur_1 h0, l1, pt1, k1, w1, h1, c1]
      have hc2 : cnt s (too s o) o.k < cnt s (o.pt o.lv) o.k := hc
      have key : sm8 (tau s o1) + cnt s (too s o) o.k + 1 ≤ sm8 (tau s o) + cnt s (o.pt o.lv) o.k := by
        refine sm8_swap (f := tau s o) (g := tau s o1) (A := cnt s (o.pt o.lv) o.k) (A' := cnt s (too s o) o.k) (p := o.lv) hlv (fun l hl hne => ?_) ?_
        · rcases Nat.lt_or_ge l o.lv with q | q
          · rw [tau_lo (o := o) q, tau_lo (o := o1) (by omega), w1]; exact Nat.le_refl _
          · rw [tau_hi (o := o1) (by omega) (fun c => by omega), tau_hi (o := o) q (fun c => hne c.1), h1, lev_same (a := o) (b := o1) (pn2 l hne) (pt2 l hne) k1]
            exact Nat.le_refl _
        · have := tau_at (s := s) s1
          rw [l1] at this
          rw [this, tau_at h0]
          omega
      omega
    | take c h0 hl hz hc =>
      left
      obtain ⟨t1, t2, t3, t4, t5⟩ := hI.two h0
      rw [cur_sam (s := s) (s' := s.taken c) (Sam.tw rfl)]
      obtain ⟨o1, ho1⟩ : ∃ o1 : Opm, o1 = { o with cs := o.cs ++ [c] } := ⟨_, rfl⟩
      have s1 : o1.st = 2 := by rw [ho1]; exact h0
      have w1 : o1.tw = 0 := by rw [ho1]; exact t2
      have h1 : o1.h = o.h := by rw [ho1]
      have c1 : o1.cs = o.cs ++ [c] := by rw [ho1]
      have e1 : tau s o1 = tau s o := by rw [ho1]; rfl
      rw [← ho1, cur_23 (.inl h0), cur_23 (.inl s1), e1, w1, h1, c1, t2, if_pos rfl, if_pos rfl, List.length_append, List.length_singleton]
      omega
    | late h0 hl hn =>
      left
      obtain ⟨t1, t2, t3, t4, t5⟩ := hI.two h0
      have h8 := hI.h8 t3
      exact cur_again hlv (.inl h0) (by omega) (by rw [t1]; exact hn) rfl rfl rfl rfl rfl rfl rfl rfl
    | slip h0 hn =>
      left
      have t0 := hI.thr h0
      obtain ⟨t1, t2, t3, t4, t5, t6⟩ := hI.tw t0
      rw [cur_sam (s := s) (Sam.fset t1)]
      exact cur_again hlv (.inr h0) (by omega) hn rfl rfl rfl rfl rfl rfl rfl rfl
theorem cur_le {n : Nat} (hn : s.tw.length ≤ n + 1) (h8 : o.h ≤ 8) (hc : o.cs.length ≤ 8) : cur s o ≤ 9 * n + 40 := by
  have hcn : ∀ i k, cnt s i k ≤ n := fun i k => by have := cnt_le s i k; omega
  have ht : ∀ l, l < 8 → tau s o l ≤ n + 3 := fun l _ => by
    unfold tau lev
    repeat' split
    all_goals (try omega)
    have := hcn (o.pt l) o.k
    omega
  have h1 := sm8_le ht
  have h2 := hcn (o.pt o.lv) o.k
  unfold cur
  repeat' split
  all_goals omega
theorem cur_pos (h : Run s x o) : 1 ≤ cur s o := by
  rcases h.st with q | q | q | q
  · have hI := h.oi (by omega)
    rw [cur_1 q]
    have := sm8_ge (f := tau s o) hI.lv
    rw [tau_at q] at this
    omega
  · have hI := h.oi (by omega)
    obtain ⟨t1, t2, t3, t4, t5⟩ := hI.two q
    have h8 := hI.h8 t3
    rw [cur_23 (.inl q)]
    have := sm8_ge (f := tau s o) hI.lv
    rw [tau_hi (o := o) (Nat.le_refl _) (fun c => by omega), if_pos (by omega)] at this
    have hl : 1 ≤ lev s o o.lv := by unfold lev; split <;> omega
    omega
  · have hI := h.oi (by omega)
    obtain ⟨t1, t2, t3, t4, t5, t6⟩ := hI.tw (hI.thr q)
    rw [cur_23 (.inr q)]
    have := sm8_ge (f := tau s o) hI.lv
    rw [tau_hi (o := o) (Nat.le_refl _) (fun c => by omega), if_pos (by omega)] at this
    have hl : 1 ≤ lev s o o.lv := by unfold lev; split <;> omega
    omega
  · rw [cur_4 q]
    exact List.length_pos_iff.2 (h.four q).2.1
end
end
end Go.Proofs.YtopihgdbfhiejaaDoor
