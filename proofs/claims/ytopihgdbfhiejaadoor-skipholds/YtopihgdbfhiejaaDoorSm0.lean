/-
  Several operations of a list, without memory: what a step leaves of the list, and of where the others are.
-/
import Derived.Test.YtopihgdbfhiejaaDoorSj3
set_option linter.unusedVariables false
set_option linter.unusedSimpArgs false
namespace Go.Proofs.YtopihgdbfhiejaaDoor
open Go.RowKit Go.Maps

/-- What every step leaves as it was. -/
structure Grw (s s' : Sl) : Prop where
  len : s.tw.length ≤ s'.tw.length
  k : ∀ i, i < s.tw.length → (s'.at i).k = (s.at i).k
  r : ∀ i, i < s.tw.length → (s'.at i).r = (s.at i).r
  h : ∀ i, i < s.tw.length → (s'.at i).h = (s.at i).h
  c : ∀ i, i < s.tw.length → (s'.at i).cs = (s.at i).cs
  lk : ∀ i, i < s.tw.length → (s.at i).lk ≤ (s'.at i).lk
  fs : ∀ i, i < s.tw.length → ∀ l, l < (s.at i).lk → (s'.at i).fs l = (s.at i).fs l

section
variable {z : Nat} {s s' : Sl} {o o' v : Opm} {i j l : Nat}
theorem Grw.tw (h : s'.tw = s.tw) : Grw s s' := by
  have ha : ∀ x, s'.at x = s.at x := fun x => by unfold Sl.at; rw [h]
  exact ⟨by rw [h]; exact Nat.le_refl _, fun x _ => by rw [ha], fun x _ => by rw [ha], fun x _ => by rw [ha], fun x _ => by rw [ha], fun x _ => by rw [ha]; exact Nat.le_refl _, fun x _ l _ => by rw [ha]⟩
theorem Grw.refl (s : Sl) : Grw s s := Grw.tw rfl
theorem Grw.linked {k : ByteArray} {r : Int} {cs : List Nat} (hi : i < s.tw.length) : Grw s (s.linked i k r cs) := by
  have ha := fun x => linked_at (k := k) (r := r) (cs := cs) hi x
  have key : ∀ x, x < s.tw.length → ((s.linked i k r cs).at x).k = (s.at x).k ∧ ((s.linked i k r cs).at x).r = (s.at x).r ∧ ((s.linked i k r cs).at x).h = (s.at x).h ∧ ((s.linked i k r cs).at x).cs = (s.at x).cs ∧ ((s.linked i k r cs).at x).lk = (s.at x).lk ∧ ((s.linked i k r cs).at x).fs = (s.at x).fs := fun x hx => by
    rw [ha, if_neg (by omega)]; split
    · rename_i e; rw [e]; exact ⟨rfl, rfl, rfl, rfl, rfl, rfl⟩
    · exact ⟨rfl, rfl, rfl, rfl, rfl, rfl⟩
  exact ⟨by rw [linked_len]; omega, fun x hx => (key x hx).1, fun x hx => (key x hx).2.1, fun x hx => (key x hx).2.2.1, fun x hx => (key x hx).2.2.2.1, fun x hx => Nat.le_of_eq (key x hx).2.2.2.2.1.symm, fun x hx l _ => by rw [(key x hx).2.2.2.2.2]⟩
theorem Grw.raised (hi : i < s.tw.length) (hj : j < s.tw.length) (hl : (s.at j).lk = l) : Grw s (s.raised i j l) := by
  have ha := fun x => raised_at (l := l) hi hj x
  have key : ∀ x, ((s.raised i j l).at x).k = (s.at x).k ∧ ((s.raised i j l).at x).r = (s.at x).r ∧ ((s.raised i j l).at x).h = (s.at x).h ∧ ((s.raised i j l).at x).cs = (s.at x).cs ∧ (s.at x).lk ≤ ((s.raised i j l).at x).lk ∧ ∀ y, y < (s.at x).lk → ((s.raised i j l).at x).fs y = (s.at x).fs y := fun x => by
    rw [ha]; split
    · rename_i e; rw [e]
      exact ⟨rfl, rfl, rfl, rfl, by show _ ≤ l + 1; omega, fun y hy => upd_ne _ (by omega)⟩
    · split
      · rename_i e; rw [e]; exact ⟨rfl, rfl, rfl, rfl, Nat.le_refl _, fun _ _ => rfl⟩
      · exact ⟨rfl, rfl, rfl, rfl, Nat.le_refl _, fun _ _ => rfl⟩
  exact ⟨by rw [raised_len]; exact Nat.le_refl _, fun x _ => (key x).1, fun x _ => (key x).2.1, fun x _ => (key x).2.2.1, fun x _ => (key x).2.2.2.1, fun x _ => (key x).2.2.2.2.1, fun x _ => (key x).2.2.2.2.2⟩
theorem Grw.fset {x : Nat} (hj : j < s.tw.length) (hl : (s.at j).lk ≤ l) : Grw s (s.fset j l x) := by
  have ha := fun y => fset_at (s := s) (l := l) (x := x) hj y
  have key : ∀ y, ((s.fset j l x).at y).k = (s.at y).k ∧ ((s.fset j l x).at y).r = (s.at y).r ∧ ((s.fset j l x).at y).h = (s.at y).h ∧ ((s.fset j l x).at y).cs = (s.at y).cs ∧ (s.at y).lk ≤ ((s.fset j l x).at y).lk ∧ ∀ q, q < (s.at y).lk → ((s.fset j l x).at y).fs q = (s.at y).fs q := fun y => by
    rw [ha]; split
    · rename_i e; rw [e]
      exact ⟨rfl, rfl, rfl, rfl, Nat.le_refl _, fun q hq => upd_ne _ (by omega)⟩
    · exact ⟨rfl, rfl, rfl, rfl, Nat.le_refl _, fun _ _ => rfl⟩
  exact ⟨by rw [fset_len]; exact Nat.le_refl _, fun x _ => (key x).1, fun x _ => (key x).2.1, fun x _ => (key x).2.2.1, fun x _ => (key x).2.2.2.1, fun x _ => (key x).2.2.2.2.1, fun x _ => (key x).2.2.2.2.2⟩
theorem Stp.grw (hI : OI s o) (hs : Stp z s o s' o') : Grw s s' := by
  cases hs with
  | leave => exact Grw.refl _
  | found => exact Grw.refl _
  | pass => exact Grw.refl _
  | take c => exact Grw.tw rfl
  | link h0 => exact Grw.linked (hI.pt 0 (by rw [(hI.two h0).1]; exact Nat.le_refl _) (by decide)).1
  | late => exact Grw.refl _
  | raise h0 =>
    obtain ⟨t1, t2, t3, _⟩ := hI.tw (hI.thr h0)
    exact Grw.raised (hI.pt o.lv (Nat.le_refl _) hI.lv).1 t1 t3
  | slip h0 =>
    obtain ⟨t1, t2, t3, _⟩ := hI.tw (hI.thr h0)
    exact Grw.fset t1 (Nat.le_of_eq t3)
theorem bh_grw (g : Grw s s') {num : Nat} (hi : i < s.tw.length) (hl : l < (s.at i).lk) (hn : num < s.tw.length) : bh s' i num l = bh s i num l := by
  have := g.len
  unfold bh
  rw [g.fs i hi l hl]
  by_cases q : num = 0
  · rw [if_pos q, if_pos q]
  · rw [if_neg q, if_neg q, if_neg (by omega), if_neg (by omega)]
/-- Another one is where it was. -/
theorem OI.other (h : OI s v) (g : Grw s s') (htw : v.tw ≠ 0 → (s'.at v.tw).lk = (s.at v.tw).lk) (hcs : v.tw = 0 → ∀ c ∈ v.cs, c ∈ s'.sp) : OI s' v := by
  refine ⟨h.lv, fun l h1 h8 => ?_, fun l hq h1 h8 => ?_, h.two, h.thr, fun q => ?_, fun q => ⟨hcs q, (h.cs q).2⟩, h.h8, h.cl⟩
  · obtain ⟨a, b, c⟩ := h.pt l h1 h8
    exact ⟨Nat.lt_of_lt_of_le a g.len, Nat.lt_of_lt_of_le b (g.lk _ a), by rw [g.k _ a]; exact c⟩
  · obtain ⟨a, b, c⟩ := h.pt l h1 h8
    obtain ⟨n1, n2⟩ := h.pn l hq h1 h8
    rw [bh_grw g a b n1]
    exact ⟨Nat.lt_of_lt_of_le n1 g.len, n2.imp id (fun q => ⟨Nat.lt_of_lt_of_le q.1 g.len, by rw [g.k _ q.1]; exact q.2⟩)⟩
  · obtain ⟨t1, t2, t3, t4, t5, t6⟩ := h.tw q
    exact ⟨Nat.lt_of_lt_of_le t1 g.len, by rw [g.k _ t1]; exact t2, by rw [htw q]; exact t3, by rw [g.h _ t1]; exact t4, by rw [g.h _ t1]; exact t5, t6⟩

/-! ### One's own step -/
theorem seen_pn (hok : s.ok) (h : OI s o) (ht : too s o = 0 ∨ Blw o.k (s.at (too s o)).k) (l : Nat) (h1 : o.lv ≤ l) (h8 : l < 8) : upd o.pn o.lv (nmo s o) l < s.tw.length ∧ (bh s (o.pt l) (upd o.pn o.lv (nmo s o) l) l = 0 ∨ (bh s (o.pt l) (upd o.pn o.lv (nmo s o) l) l < s.tw.length ∧ Blw o.k (s.at (bh s (o.pt l) (upd o.pn o.lv (nmo s o) l) l)).k)) := by
  obtain ⟨p1, p2, p3⟩ := h.pt o.lv (Nat.le_refl _) h.lv
  by_cases q : l = o.lv
  · subst q
    rw [upd_same, show bh s (o.pt o.lv) (nmo s o) o.lv = too s o from bh_nx hok p1]
    refine ⟨hok.nl _ p1 _, ?_⟩
    by_cases q0 : too s o = 0
    · exact .inl q0
    · exact .inr ⟨(hok.nx _ p1 _ p2 q0).1, ht.resolve_left q0⟩
  · rw [upd_ne _ q]
    exact h.pn l (.inl (by omega)) h1 h8
theorem OI.leave1 (hok : s.ok) (h : OI s o) (ht : too s o = 0 ∨ Blw o.k (s.at (too s o)).k) (hw : o.tw ≠ 0) : OI s { o.seen (nmo s o) with st := 3 } :=
  ⟨h.lv, h.pt, fun l _ h1 h8 => seen_pn hok h ht l h1 h8, fun q => absurd q (show ¬ (3 : Nat) = 2 by decide), fun _ => hw, h.tw, fun q => absurd q hw, h.h8, h.cl⟩
theorem OI.down (hok : s.ok) (h : OI s o) (h0 : o.st = 1) (ht : too s o = 0 ∨ Blw o.k (s.at (too s o)).k) (hw : o.tw = 0) (hl0 : o.lv ≠ 0) : OI s { o.seen (nmo s o) with lv := o.lv - 1, pt := upd o.pt (o.lv - 1) (o.pt o.lv) } := by
  have hlv := h.lv
  obtain ⟨p1, p2, p3⟩ := h.pt o.lv (Nat.le_refl _) hlv
  have hpt2 : ∀ l, o.lv ≤ l → upd o.pt (o.lv - 1) (o.pt o.lv) l = o.pt l := fun l hl => upd_ne _ (by omega)
  refine ⟨show o.lv - 1 < 8 by omega, fun l h1 h8 => ?_, fun l hq h1 h8 => ?_, fun q => absurd (show o.st = 2 from q) (by omega), fun q => absurd (show o.st = 3 from q) (by omega), fun q => absurd hw q, h.cs, h.h8, h.cl⟩
  · show upd o.pt (o.lv - 1) (o.pt o.lv) l < _ ∧ l < (s.at (upd o.pt (o.lv - 1) (o.pt o.lv) l)).lk ∧ (upd o.pt (o.lv - 1) (o.pt o.lv) l = 0 ∨ Blw (s.at (upd o.pt (o.lv - 1) (o.pt o.lv) l)).k o.k)
    by_cases q : l = o.lv - 1
    · subst q
      rw [upd_same]
      exact ⟨p1, by omega, p3⟩
    · have h1' : o.lv - 1 ≤ l := h1
      rw [hpt2 l (by omega)]
      exact h.pt l (by omega) h8
  · have hl : o.lv ≤ l := by
      rcases hq with q | q
      · have : o.lv - 1 < l := q; omega
      · exact absurd h0 q
    show upd o.pn o.lv (nmo s o) l < _ ∧ (bh s (upd o.pt (o.lv - 1) (o.pt o.lv) l) (upd o.pn o.lv (nmo s o) l) l = 0 ∨ (bh s (upd o.pt (o.lv - 1) (o.pt o.lv) l) (upd o.pn o.lv (nmo s o) l) l < _ ∧ Blw o.k (s.at (bh s (upd o.pt (o.lv - 1) (o.pt o.lv) l) (upd o.pn o.lv (nmo s o) l) l)).k))
    rw [hpt2 l hl]
    exact seen_pn hok h ht l hl h8
theorem OI.two1 (hok : s.ok) (h : OI s o) (ht : too s o = 0 ∨ Blw o.k (s.at (too s o)).k) (hw : o.tw = 0) (hl0 : o.lv = 0) (hk : o.kind = 2) (hg : good o.k = true) (hc : o.cs.length ≤ o.h) : OI s { o.seen (nmo s o) with st := 2 } :=
  ⟨h.lv, h.pt, fun l _ h1 h8 => seen_pn hok h ht l h1 h8, fun _ => ⟨hl0, hw, hk, hg, hc⟩, fun q => absurd q (show ¬ (2 : Nat) = 3 by decide), h.tw, h.cs, h.h8, h.cl⟩
theorem OI.pass (hok : s.ok) (h : OI s o) (h0 : o.st = 1) (ht : too s o ≠ 0) (hk : Blw (s.at (too s o)).k o.k) : OI s { o.seen (nmo s o) with pt := upd o.pt o.lv (too s o) } := by
  have hlv := h.lv
  obtain ⟨p1, p2, p3⟩ := h.pt o.lv (Nat.le_refl _) hlv
  obtain ⟨q1, q2, q3⟩ := hok.nx _ p1 _ p2 ht
  refine ⟨hlv, fun l h1 h8 => ?_, fun l hq2 h1 h8 => ?_, fun q => absurd (show o.st = 2 from q) (by omega), fun q => absurd (show o.st = 3 from q) (by omega), h.tw, h.cs, h.h8, h.cl⟩
  · show upd o.pt o.lv (too s o) l < _ ∧ l < (s.at (upd o.pt o.lv (too s o) l)).lk ∧ (upd o.pt o.lv (too s o) l = 0 ∨ Blw (s.at (upd o.pt o.lv (too s o) l)).k o.k)
    by_cases q : l = o.lv
    · subst q
      rw [upd_same]
      exact ⟨q1, q2, .inr hk⟩
    · rw [upd_ne _ q]
      exact h.pt l h1 h8
  · have hl : o.lv < l := by
      rcases hq2 with q | q
      · exact q
      · exact absurd h0 q
    show upd o.pn o.lv (nmo s o) l < _ ∧ (bh s (upd o.pt o.lv (too s o) l) (upd o.pn o.lv (nmo s o) l) l = 0 ∨ (bh s (upd o.pt o.lv (too s o) l) (upd o.pn o.lv (nmo s o) l) l < _ ∧ Blw o.k (s.at (bh s (upd o.pt o.lv (too s o) l) (upd o.pn o.lv (nmo s o) l) l)).k))
    rw [upd_ne _ (show l ≠ o.lv by omega), upd_ne _ (show l ≠ o.lv by omega)]
    exact h.pn l (.inl hl) h1 h8
theorem OI.take (h : OI s o) {c : Nat} (h0 : o.st = 2) (hl : o.cs.length < o.h) (hc : c ∉ s.cells) : OI (s.taken c) { o with cs := o.cs ++ [c] } := by
  obtain ⟨t1, t2, t3, t4, t5⟩ := h.two h0
  obtain ⟨cs1, cs2⟩ := h.cs t2
  have h8 := h.h8 t3
  have hb := h.other (s' := s.taken c) (Grw.tw rfl) (fun _ => rfl) (fun _ x hx => List.mem_append.2 (.inl (cs1 x hx)))
  refine ⟨hb.lv, hb.pt, hb.pn, fun _ => ⟨t1, t2, t3, t4, by show (o.cs ++ [c]).length ≤ o.h; simp; omega⟩, hb.thr, hb.tw, fun _ => ⟨fun x hx => ?_, ?_⟩, hb.h8, by show (o.cs ++ [c]).length ≤ 8; simp; omega⟩
  · have hx2 : x ∈ o.cs ++ [c] := hx
    show x ∈ s.sp ++ [c]
    rcases List.mem_append.1 hx2 with q | q
    · exact List.mem_append.2 (.inl (cs1 x q))
    · exact List.mem_append.2 (.inr q)
  · show (o.cs ++ [c]).Nodup
    rw [List.nodup_append]
    refine ⟨cs2, by simp, fun x hx y hy e => ?_⟩
    simp at hy
    subst hy
    subst e
    exact hc (sp_cells (cs1 x hx))
theorem OI.late (h : OI s o) (hw : o.tw = 0) : OI s { o with st := 1 } :=
  ⟨h.lv, h.pt, fun l hq h1 h8 => h.pn l (hq.imp id (fun q => absurd rfl q)) h1 h8, fun q => absurd q (show ¬ (1 : Nat) = 2 by decide), fun q => absurd q (show ¬ (1 : Nat) = 3 by decide), h.tw, h.cs, h.h8, h.cl⟩
theorem OI.slip (h : OI s o) (h0 : o.st = 3) {x : Nat} : OI (s.fset o.tw o.lv x) { o with st := 1 } := by
  have t0 := h.thr h0
  obtain ⟨t1, t2, t3, t4, t5, t6⟩ := h.tw t0
  have hb := h.other (s' := s.fset o.tw o.lv x) (Grw.fset t1 (Nat.le_of_eq t3)) (fun _ => by rw [fset_at t1, if_pos rfl]) (fun q => absurd q t0)
  exact ⟨hb.lv, hb.pt, fun l hq h1 h8 => hb.pn l (hq.imp id (fun q => absurd rfl q)) h1 h8, fun q => absurd q (show ¬ (1 : Nat) = 2 by decide), fun q => absurd q (show ¬ (1 : Nat) = 3 by decide), hb.tw, hb.cs, hb.h8, hb.cl⟩
theorem OI.link (h : OI s o) (h0 : o.st = 2) (hl : o.cs.length = o.h) (hn1 : 1 ≤ s.tw.length) (hh : ¬ o.lv + 1 = o.h) : OI (s.linked (o.pt 0) o.k o.r o.cs) { o with st := 3, tw := s.tw.length, lv := o.lv + 1 } := by
  obtain ⟨t1, t2, t3, t4, t5⟩ := h.two h0
  have h8o := h.h8 t3
  have p1 := (h.pt 0 (by omega) (by decide)).1
  have g : Grw s (s.linked (o.pt 0) o.k o.r o.cs) := Grw.linked p1
  have hl2 := linked_len (s := s) (i := o.pt 0) (k := o.k) (r := o.r) (cs := o.cs)
  have hat : (s.linked (o.pt 0) o.k o.r o.cs).at s.tw.length = newT s (o.pt 0) o.k o.r o.cs := by rw [linked_at p1, if_pos rfl]
  refine ⟨show o.lv + 1 < 8 by omega, fun l h1 h8 => ?_, fun l hq h1 h8 => ?_, fun q => absurd q (show ¬ (3 : Nat) = 2 by decide), fun _ => (show s.tw.length ≠ 0 by omega), fun _ => ?_, fun q => absurd q (show s.tw.length ≠ 0 by omega), h.h8, h.cl⟩
  · have h1' : o.lv + 1 ≤ l := h1
    obtain ⟨q1, q2, q3⟩ := h.pt l (by omega) h8
    exact ⟨Nat.lt_of_lt_of_le q1 g.len, Nat.lt_of_lt_of_le q2 (g.lk _ q1), by rw [g.k _ q1]; exact q3⟩
  · have h1' : o.lv + 1 ≤ l := h1
    obtain ⟨q1, q2, q3⟩ := h.pt l (by omega) h8
    obtain ⟨n1, n2⟩ := h.pn l (.inr (by omega)) (by omega) h8
    show o.pn l < _ ∧ (bh _ (o.pt l) (o.pn l) l = 0 ∨ (bh _ (o.pt l) (o.pn l) l < _ ∧ Blw o.k (Sl.at _ (bh _ (o.pt l) (o.pn l) l)).k))
    rw [bh_grw g q1 q2 n1]
    exact ⟨Nat.lt_of_lt_of_le n1 g.len, n2.imp id (fun q => ⟨Nat.lt_of_lt_of_le q.1 g.len, by rw [g.k _ q.1]; exact q.2⟩)⟩
  · show s.tw.length < (s.linked (o.pt 0) o.k o.r o.cs).tw.length ∧ ((s.linked (o.pt 0) o.k o.r o.cs).at s.tw.length).k = o.k ∧ ((s.linked (o.pt 0) o.k o.r o.cs).at s.tw.length).lk = o.lv + 1 ∧ o.lv + 1 < ((s.linked (o.pt 0) o.k o.r o.cs).at s.tw.length).h ∧ ((s.linked (o.pt 0) o.k o.r o.cs).at s.tw.length).h = o.h ∧ 1 ≤ o.lv + 1
    rw [hat, hl2]
    exact ⟨by omega, rfl, (by show 1 = _; omega), (by show _ < o.cs.length; omega), hl, by omega⟩
theorem OI.raise (hok : s.ok) (h : OI s o) (h0 : o.st = 3) (hh : ¬ o.lv + 1 = o.h) : OI (s.raised (o.pt o.lv) o.tw o.lv) { o with st := 3, lv := o.lv + 1 } := by
  have t0 := h.thr h0
  obtain ⟨t1, t2, t3, t4, t5, t6⟩ := h.tw t0
  have hlv := h.lv
  obtain ⟨p1, p2, p3⟩ := h.pt o.lv (Nat.le_refl _) hlv
  have g : Grw s (s.raised (o.pt o.lv) o.tw o.lv) := Grw.raised p1 t1 t3
  have hl2 := raised_len (s := s) (i := o.pt o.lv) (j := o.tw) (l := o.lv)
  have hat : (s.raised (o.pt o.lv) o.tw o.lv).at o.tw = { s.at o.tw with fs := upd (s.at o.tw).fs o.lv (s.nx (o.pt o.lv) o.lv), lk := o.lv + 1 } := by rw [raised_at p1 t1, if_pos rfl]
  have hhh := (hok.sh _ t1).2.2
  refine ⟨show o.lv + 1 < 8 from ?_, fun l h1 h8 => ?_, fun l hq h1 h8 => ?_, fun q => absurd q (show ¬ (3 : Nat) = 2 by decide), fun _ => t0, fun _ => ?_, fun q => absurd q t0, h.h8, h.cl⟩
  · omega
  · have h1' : o.lv + 1 ≤ l := h1
    obtain ⟨q1, q2, q3⟩ := h.pt l (by omega) h8
    exact ⟨Nat.lt_of_lt_of_le q1 g.len, Nat.lt_of_lt_of_le q2 (g.lk _ q1), by rw [g.k _ q1]; exact q3⟩
  · have h1' : o.lv + 1 ≤ l := h1
    obtain ⟨q1, q2, q3⟩ := h.pt l (by omega) h8
    obtain ⟨n1, n2⟩ := h.pn l (.inr (by omega)) (by omega) h8
    show o.pn l < _ ∧ (bh _ (o.pt l) (o.pn l) l = 0 ∨ (bh _ (o.pt l) (o.pn l) l < _ ∧ Blw o.k (Sl.at _ (bh _ (o.pt l) (o.pn l) l)).k))
    rw [bh_grw g q1 q2 n1]
    exact ⟨Nat.lt_of_lt_of_le n1 g.len, n2.imp id (fun q => ⟨Nat.lt_of_lt_of_le q.1 g.len, by rw [g.k _ q.1]; exact q.2⟩)⟩
  · show o.tw < (s.raised (o.pt o.lv) o.tw o.lv).tw.length ∧ ((s.raised (o.pt o.lv) o.tw o.lv).at o.tw).k = o.k ∧ ((s.raised (o.pt o.lv) o.tw o.lv).at o.tw).lk = o.lv + 1 ∧ o.lv + 1 < ((s.raised (o.pt o.lv) o.tw o.lv).at o.tw).h ∧ ((s.raised (o.pt o.lv) o.tw o.lv).at o.tw).h = o.h ∧ 1 ≤ o.lv + 1
    rw [hat, hl2]
    exact ⟨t1, t2, rfl, (by show _ < (s.at o.tw).h; omega), t5, by omega⟩
end
end Go.Proofs.YtopihgdbfhiejaaDoor
