/-
  How many steps are to come: a measure that falls with every step that links nothing.
-/
import Derived.Test.YtopihgdbfhiejaaDoorSm2
set_option linter.unusedVariables false
set_option linter.unusedSimpArgs false
namespace Go.Proofs.YtopihgdbfhiejaaDoor
open Go.RowKit Go.Maps

/-- On how many levels towers are linked. -/
def lks (s : Sl) : Nat := (s.tw.map Tw.lk).sum
/-- The keys and what stands behind them are the same. -/
structure Sam (s s' : Sl) : Prop where
  len : s'.tw.length = s.tw.length
  k : ∀ i, (s'.at i).k = (s.at i).k
  ns : ∀ i, (s'.at i).ns = (s.at i).ns
def lev (s : Sl) (o : Opm) (l : Nat) : Nat := if o.pn l = (s.at (o.pt l)).ns l then 1 else cnt s (o.pt l) o.k + 3
def tau (s : Sl) (o : Opm) (l : Nat) : Nat := if l < o.lv then (if o.tw = 0 then 2 else 0) else if l = o.lv ∧ o.st = 1 then 2 else if l < o.h then lev s o l else 0
def sm8 (f : Nat → Nat) : Nat := f 0 + f 1 + f 2 + f 3 + f 4 + f 5 + f 6 + f 7
/-- At most so many steps are to come, if nothing is linked. -/
def cur (s : Sl) (o : Opm) : Nat :=
  if o.st = 4 then o.cs.length else if o.st = 0 then 1 else sm8 (tau s o) + (if o.st = 1 then cnt s (o.pt o.lv) o.k else 0) + (if o.tw = 0 then 2 * o.h - o.cs.length else 0)

theorem sm8_swap {f g : Nat → Nat} {A A' p : Nat} (hp : p < 8) (h : ∀ l, l < 8 → l ≠ p → g l ≤ f l) (h1 : g p + A' + 1 ≤ f p + A) : sm8 g + A' + 1 ≤ sm8 f + A := by
  have h' : ∀ l, l < 8 → l = p ∨ g l ≤ f l := fun l hl => by
    by_cases e : l = p
    · exact .inl e
    · exact .inr (h l hl e)
  have a0 := h' 0 (by decide)
  have a1 := h' 1 (by decide)
  have a2 := h' 2 (by decide)
  have a3 := h' 3 (by decide)
  have a4 := h' 4 (by decide)
  have a5 := h' 5 (by decide)
  have a6 := h' 6 (by decide)
  have a7 := h' 7 (by decide)
  unfold sm8
  rcases (show p = 0 ∨ p = 1 ∨ p = 2 ∨ p = 3 ∨ p = 4 ∨ p = 5 ∨ p = 6 ∨ p = 7 by omega) with e | e | e | e | e | e | e | e <;> subst e <;> omega
theorem sm8_le {f : Nat → Nat} {B : Nat} (h : ∀ l, l < 8 → f l ≤ B) : sm8 f ≤ 8 * B := by
  have a0 := h 0 (by decide)
  have a1 := h 1 (by decide)
  have a2 := h 2 (by decide)
  have a3 := h 3 (by decide)
  have a4 := h 4 (by decide)
  have a5 := h 5 (by decide)
  have a6 := h 6 (by decide)
  have a7 := h 7 (by decide)
  unfold sm8; omega
theorem sm8_ge {f : Nat → Nat} {p : Nat} (hp : p < 8) : f p ≤ sm8 f := by
  unfold sm8
  rcases (show p = 0 ∨ p = 1 ∨ p = 2 ∨ p = 3 ∨ p = 4 ∨ p = 5 ∨ p = 6 ∨ p = 7 by omega) with e | e | e | e | e | e | e | e <;> subst e <;> omega

section
variable {z : Nat} {s s' : Sl} {x : AskR} {o o' v : Opm}
theorem Sam.tw (h : s'.tw = s.tw) : Sam s s' := by
  have ha : ∀ x, s'.at x = s.at x := fun x => by unfold Sl.at; rw [h]
  exact ⟨by rw [h], fun i => by rw [ha], fun i => by rw [ha]⟩
theorem Sam.fset {j l y : Nat} (hj : j < s.tw.length) : Sam s (s.fset j l y) := by
  have ha := fun q => fset_at (s := s) (l := l) (x := y) hj q
  refine ⟨fset_len, fun i => ?_, fun i => ?_⟩
  · rw [ha]; split
    · rename_i e; rw [e]
    · rfl
  · rw [ha]; split
    · rename_i e; rw [e]
    · rfl
theorem cnt_sam (h : Sam s s') (i : Nat) (k : ByteArray) : cnt s' i k = cnt s i k := by
  unfold cnt
  rw [h.len]
  congr 2
  funext j
  unfold btw
  rw [h.k, h.k]
theorem tau_sam (h : Sam s s') (v : Opm) (l : Nat) : tau s' v l = tau s v l := by
  unfold tau lev
  rw [h.ns, cnt_sam h]
theorem cur_sam (h : Sam s s') (v : Opm) : cur s' v = cur s v := by
  unfold cur
  rw [cnt_sam h, show tau s' v = tau s v from funext (tau_sam h v)]
theorem lks_set {l : List Tw} {i : Nat} {t : Tw} (hi : i < l.length) : ((l.set i t).map Tw.lk).sum + (l.getD i t0).lk = (l.map Tw.lk).sum + t.lk := by
  have := sum_set (l.map Tw.lk) i t.lk (by simpa using hi)
  rw [← List.map_set] at this
  have e : (l.map Tw.lk).getD i 0 = (l.getD i t0).lk := by simp [List.getD, List.getElem?_map, List.getElem?_eq_getElem hi]
  omega
theorem lks_fset {j l y : Nat} (hj : j < s.tw.length) : lks (s.fset j l y) = lks s := by
  unfold lks Sl.fset
  have := lks_set (l := s.tw) (i := j) (t := { s.at j with fs := upd (s.at j).fs l y }) hj
  have e : (s.tw.getD j t0).lk = (s.at j).lk := rfl
  show ((s.tw.set j { s.at j with fs := upd (s.at j).fs l y }).map Tw.lk).sum = _
  have e2 : ({ s.at j with fs := upd (s.at j).fs l y } : Tw).lk = (s.at j).lk := rfl
  omega
theorem lks_linked {i : Nat} {k : ByteArray} {r : Int} {cs : List Nat} (hi : i < s.tw.length) : lks (s.linked i k r cs) = lks s + 1 := by
  unfold lks Sl.linked
  have := lks_set (l := s.tw) (i := i) (t := { s.at i with ns := upd (s.at i).ns 0 s.tw.length }) hi
  have e : (s.tw.getD i t0).lk = (s.at i).lk := rfl
  have e2 : ({ s.at i with ns := upd (s.at i).ns 0 s.tw.length } : Tw).lk = (s.at i).lk := rfl
  show ((s.tw.set i { s.at i with ns := upd (s.at i).ns 0 s.tw.length } ++ [newT s i k r cs]).map Tw.lk).sum = _
  rw [List.map_append, List.sum_append]
  show _ + (1 + 0) = _
  omega
theorem lks_raised {i j l : Nat} (hi : i < s.tw.length) (hj : j < s.tw.length) (hij : i ≠ j) (hl : (s.at j).lk = l) : lks (s.raised i j l) = lks s + 1 := by
  unfold lks Sl.raised
  have h1 := lks_set (l := s.tw) (i := i) (t := { s.at i with ns := upd (s.at i).ns l j }) hi
  have h2 := lks_set (l := s.tw.set i { s.at i with ns := upd (s.at i).ns l j }) (i := j) (t := { s.at j with fs := upd (s.at j).fs l (s.nx i l), lk := l + 1 }) (by simpa using hj)
  have e : (s.tw.getD i t0).lk = (s.at i).lk := rfl
  have e2 : ({ s.at i with ns := upd (s.at i).ns l j } : Tw).lk = (s.at i).lk := rfl
  have e3 : ((s.tw.set i { s.at i with ns := upd (s.at i).ns l j }).getD j t0).lk = (s.at j).lk := by
    rw [getD_set, if_neg (fun q => hij q.1.symm)]; rfl
  have e4 : ({ s.at j with fs := upd (s.at j).fs l (s.nx i l), lk := l + 1 } : Tw).lk = l + 1 := rfl
  show (((s.tw.set i { s.at i with ns := upd (s.at i).ns l j }).set j { s.at j with fs := upd (s.at j).fs l (s.nx i l), lk := l + 1 }).map Tw.lk).sum = _
  omega
theorem lks_le (h : s.ok) : lks s ≤ 8 * s.tw.length := by
  have key : ∀ l : List Tw, (∀ t ∈ l, t.lk ≤ 8) → (l.map Tw.lk).sum ≤ 8 * l.length := by
    intro l
    induction l with
    | nil => intro _; simp
    | cons t l ih =>
      intro ha
      have h1 := ih (fun v hv => ha v (by simp [hv]))
      have h2 := ha t (by simp)
      simp only [List.map_cons, List.sum_cons, List.length_cons]
      omega
  refine key s.tw (fun t ht => ?_)
  obtain ⟨i, hi, rfl⟩ := List.getElem_of_mem ht
  have ea : s.at i = s.tw[i] := by simp [Sl.at, List.getD, List.getElem?_eq_getElem hi]
  have := h.sh i hi
  rw [ea] at this
  omega
theorem Sq.lks (h : Run s x o) (hs : Sq z s o s' o') : (Sam s s' ∧ lks s' = lks s) ∨ Go.Proofs.YtopihgdbfhiejaaDoor.lks s' = Go.Proofs.YtopihgdbfhiejaaDoor.lks s + 1 := by
  cases hs with
  | give c rest h0 ec => exact .inl ⟨Sam.tw rfl, rfl⟩
  | stp s' o' h4 hs =>
    have hI := h.oi h4
    cases hs with
    | link h0 => exact .inr (lks_linked (hI.pt 0 (by rw [(hI.two h0).1]; exact Nat.le_refl _) (by decide)).1)
    | raise h0 =>
      obtain ⟨t1, t2, t3, t4, _⟩ := hI.tw (hI.thr h0)
      obtain ⟨p1, p2, _⟩ := hI.pt o.lv (Nat.le_refl _) hI.lv
      exact .inr (lks_raised p1 t1 (fun e => by rw [e] at p2; omega) t3)
    | slip h0 =>
      obtain ⟨t1, _⟩ := hI.tw (hI.thr h0)
      exact .inl ⟨Sam.fset t1, lks_fset t1⟩
    | leave => exact .inl ⟨Sam.tw rfl, rfl⟩
    | found => exact .inl ⟨Sam.tw rfl, rfl⟩
    | pass => exact .inl ⟨Sam.tw rfl, rfl⟩
    | take c => exact .inl ⟨Sam.tw rfl, rfl⟩
    | late => exact .inl ⟨Sam.tw rfl, rfl⟩
theorem tau_lo {l : Nat} (h : l < o.lv) : tau s o l = if o.tw = 0 then 2 else 0 := by unfold tau; rw [if_pos h]
theorem tau_at (h : o.st = 1) : tau s o o.lv = 2 := by unfold tau; rw [if_neg (Nat.lt_irrefl _), if_pos ⟨rfl, h⟩]
theorem tau_hi {l : Nat} (h : o.lv ≤ l) (h1 : ¬ (l = o.lv ∧ o.st = 1)) : tau s o l = if l < o.h then lev s o l else 0 := by unfold tau; rw [if_neg (by omega), if_neg h1]
theorem lev_same {a b : Opm} {l : Nat} (h1 : b.pn l = a.pn l) (h2 : b.pt l = a.pt l) (h3 : b.k = a.k) : lev s b l = lev s a l := by unfold lev; rw [h1, h2, h3]
theorem lev_fresh {l : Nat} (h : o.pn l = (s.at (o.pt l)).ns l) : lev s o l = 1 := by unfold lev; rw [if_pos h]
theorem lev_stale {l : Nat} (h : (s.at (o.pt l)).ns l ≠ o.pn l) : lev s o l = cnt s (o.pt l) o.k + 3 := by unfold lev; rw [if_neg (fun q => h q.symm)]
theorem cur_1 (h : o.st = 1) : cur s o = sm8 (tau s o) + cnt s (o.pt o.lv) o.k + (if o.tw = 0 then 2 * o.h - o.cs.length else 0) := by unfold cur; rw [if_neg (by omega), if_neg (by omega), if_pos h]
theorem cur_23 (h : o.st = 2 ∨ o.st = 3) : cur s o = sm8 (tau s o) + 0 + (if o.tw = 0 then 2 * o.h - o.cs.length else 0) := by unfold cur; rw [if_neg (by omega), if_neg (by omega), if_neg (by omega)]
theorem cur_4 (h : o.st = 4) : cur s o = o.cs.length := by unfold cur; rw [if_pos h]

theorem cur_leave {st : Nat} (hlv : o.lv < 8) (h0 : o.st = 1) (hst : st = 2 ∨ st = 3) {o1 : Opm} (l1 : o1.lv = o.lv) (s1 : o1.st = st) (w1 : o1.tw = o.tw) (h1 : o1.h = o.h) (c1 : o1.cs = o.cs) (k1 : o1.k = o.k) (pt : o1.pt = o.pt) (pn1 : o1.pn o.lv = nmo s o) (pn2 : ∀ l, l ≠ o.lv → o1.pn l = o.pn l) : cur s o1 + 1 ≤ cur s o := by
  rw [cur_1 h0, cur_23 (o := o1) (by omega), w1, h1, c1]
  have key : sm8 (tau s o1) + 0 + 1 ≤ sm8 (tau s o) + cnt s (o.pt o.lv) o.k := by
    refine sm8_swap (f := tau s o) (g := tau s o1) (A := cnt s (o.pt o.lv) o.k) (A' := 0) (p := o.lv) hlv (fun l hl hne => ?_) ?_
    · rcases Nat.lt_or_ge l o.lv with q | q
      · rw [tau_lo (o := o) q, tau_lo (o := o1) (by omega), w1]; exact Nat.le_refl _
      · rw [tau_hi (o := o1) (by omega) (fun c => by omega), tau_hi (o := o) q (fun c => hne c.1), h1, lev_same (a := o) (b := o1) (pn2 l hne) (by rw [pt]) k1]
        exact Nat.le_refl _
    · rw [tau_at h0, tau_hi (o := o1) (by omega) (fun c => by omega), lev_fresh (o := o1) (by rw [pn1, pt]; rfl)]
      split <;> omega
  omega
theorem cur_again {o1 : Opm} (hlv : o.lv < 8) (h0 : o.st = 2 ∨ o.st = 3) (hlh : o.lv < o.h) (hn : (s.at (o.pt o.lv)).ns o.lv ≠ o.pn o.lv) (l1 : o1.lv = o.lv) (s1 : o1.st = 1) (w1 : o1.tw = o.tw) (h1 : o1.h = o.h) (c1 : o1.cs = o.cs) (k1 : o1.k = o.k) (pt : o1.pt = o.pt) (pn : o1.pn = o.pn) : cur s o1 + 1 ≤ cur s o := by
  rw [cur_23 h0, cur_1 s1, w1, h1, c1, l1, pt, k1]
  have key : sm8 (tau s o1) + cnt s (o.pt o.lv) o.k + 1 ≤ sm8 (tau s o) + 0 := by
    refine sm8_swap (f := tau s o) (g := tau s o1) (A := 0) (A' := cnt s (o.pt o.lv) o.k) (p := o.lv) hlv (fun l hl hne => ?_) ?_
    · rcases Nat.lt_or_ge l o.lv with q | q
      · rw [tau_lo (o := o) q, tau_lo (o := o1) (by omega), w1]; exact Nat.le_refl _
      · rw [tau_hi (o := o1) (by omega) (fun c => by omega), tau_hi (o := o) q (fun c => hne c.1), h1, lev_same (a := o) (b := o1) (by rw [pn]) (by rw [pt]) k1]
        exact Nat.le_refl _
    · have e1 := tau_at (s := s) s1
      rw [l1] at e1
      rw [e1, tau_hi (o := o) (Nat.le_refl _) (fun q => by omega), if_pos hlh, lev_stale hn]
      omega
  omega

set_option maxHeartbeats 2000000 in
theorem cur_step (h : Run s x o) (hok : s.ok) (hs : Sq z s o s' o') (h5 : o'.st ≠ 5) : cur s' o' + 1 ≤ cur s o ∨ lks s' = lks s + 1 := by
  cases hs with
  | give c rest h0 ec =>
    left
    have hr : ¬ rest.length = 0 := fun e => h5 (by show (if rest.length = 0 then 5 else 4) = 5; rw [if_pos e])
    have e4 : (if rest.length = 0 then 5 else 4) = 4 := if_neg hr
    rw [cur_4 h0, cur_4 (o := { o with cs := rest, st := if rest.length = 0 then 5 else 4 }) e4, ec]
    exact Nat.le_refl _
  | stp s' o' h4 hs =>
    have hI := h.oi h4
    have hlv := hI.lv
    obtain ⟨p1, p2, p3⟩ := hI.pt o.lv (Nat.le_refl _) hlv
    cases hs with
    | link h0 => exact .inr (lks_linked (hI.pt 0 (by rw [(hI.two h0).1]; exact Nat.le_refl _) (by decide)).1)
    | raise h0 =>
      obtain ⟨t1, t2, t3, t4, _⟩ := hI.tw (hI.thr h0)
      exact .inr (lks_raised p1 t1 (fun e => by rw [e] at p2; omega) t3)
    | leave h0 ht =>
      left
      by_cases hw : o.tw = 0
      · by_cases hl0 : o.lv = 0
        · have e0 : (o.seen (nmo s o)).left s (too s o) = if o.kind = 0 then (o.seen (nmo s o)).ans s 0 false else if o.kind = 1 then (o.seen (nmo s o)).ans s (too s o) (decide (too s o ≠ 0)) else { o.seen (nmo s o) with st := 2 } := by
            unfold Opm.left
            rw [if_neg (show ¬ (o.seen (nmo s o)).tw ≠ 0 from fun q => q hw), if_neg (show ¬ (o.seen (nmo s o)).lv ≠ 0 from fun q => q hl0)]
            show (if o.kind = 0 then _ else if o.kind = 1 then _ else if o.full = true then _ else _) = _
            rw [h.full]
            rfl
          have hk2 : o.kind ≠ 0 ∧ o.kind ≠ 1 := by
            have hcs : okd x ≠ 2 → ∀ i had, ((o.seen (nmo s o)).ans s i had).st = 5 := fun q i had => (ans_nil (o.seen (nmo s o)) s i had (fun c hc => by have hc2 : c ∈ o.cs := hc; rw [(h.h0 q).2.1] at hc2; cases hc2)).1
            refine ⟨fun k0 => ?_, fun k1 => ?_⟩
            · rw [e0, if_pos k0] at h5
              exact h5 (hcs (by rw [← h.kd, k0]; decide) _ _)
            · rw [e0, if_neg (by omega), if_pos k1] at h5
              exact h5 (hcs (by rw [← h.kd, k1]; decide) _ _)
          rw [e0, if_neg hk2.1, if_neg hk2.2]
          exact cur_leave (st := 2) hlv h0 (.inl rfl) rfl rfl rfl rfl rfl rfl rfl (upd_same _ _ _) (fun l hl => upd_ne _ hl)
        · have e0 : (o.seen (nmo s o)).left s (too s o) = { o.seen (nmo s o) with lv := o.lv - 1, pt := upd o.pt (o.lv - 1) (o.pt o.lv) } := by
            unfold Opm.left
            rw [if_neg (show ¬ (o.seen (nmo s o)).tw ≠ 0 from fun q => q hw), if_pos (show (o.seen (nmo s o)).lv ≠ 0 from hl0)]
            rfl
          rw [e0]
          obtain ⟨o1, ho1⟩ : ∃ o1 : Opm, o1 = { o.seen (nmo s o) with lv := o.lv - 1, pt := upd o.pt (o.lv - 1) (o.pt o.lv) } := ⟨_, rfl⟩
          have l1 : o1.lv = o.lv - 1 := by rw [ho1]
          have s1 : o1.st = 1 := by rw [ho1]; exact h0
          have w1 : o1.tw = o.tw := by rw [ho1]; rfl
          have h1 : o1.h = o.h := by rw [ho1]; rfl
          have c1 : o1.cs = o.cs := by rw [ho1]; rfl
          have k1 : o1.k = o.k := by rw [ho1]; rfl
          have pt1 : o1.pt o1.lv = o.pt o.lv := by rw [l1, ho1]; exact upd_same _ _ _
          have pt2 : ∀ l, o.lv ≤ l → o1.pt l = o.pt l := fun l hl => by rw [ho1]; exact upd_ne _ (by omega)
          have pn1 : o1.pn o.lv = nmo s o := by rw [ho1]; exact upd_same _ _ _
          have pn2 : ∀ l, l ≠ o.lv → o1.pn l = o.pn l := fun l hl => by rw [ho1]; exact upd_ne _ hl
          rw [← ho1, cur_1 h0, cur_1 s1, pt1, k1, w1, h1, c1]
          have key : sm8 (tau s o1) + 0 + 1 ≤ sm8 (tau s o) + 0 := by
            refine sm8_swap (f := tau s o) (g := tau s o1) (A := 0) (A' := 0) (p := o.lv) hlv (fun l hl hne => ?_) ?_
            · rcases Nat.lt_or_ge l o.lv with q | q
              · rw [tau_lo (o := o) q, if_pos hw]
                by_cases e : l = o1.lv
                · rw [e, tau_at s1]; exact Nat.le_refl _
                · rw [tau_lo (o := o1) (by omega), w1, if_pos hw]; exact Nat.le_refl _
              · rw [tau_hi (o := o1) (by omega) (fun c => by omega), tau_hi (o := o) q (fun c => hne c.1), h1, lev_same (a := o) (b := o1) (pn2 l hne) (pt2 l q) k1]
                exact Nat.le_refl _
            · rw [tau_at h0, tau_hi (o := o1) (by omega) (fun c => by omega), lev_fresh (o := o1) (by rw [pn1, pt2 o.lv (Nat.le_refl _)]; rfl)]
              split <;> omega
          omega
      · have e0 : (o.seen (nmo s o)).left s (too s o) = { o.seen (nmo s o) with st := 3 } := by
          unfold Opm.left
          rw [if_pos (show (o.seen (nmo s o)).tw ≠ 0 from hw)]
        rw [e0]
        exact cur_leave (st := 3) hlv h0 (.inr rfl) rfl rfl rfl rfl rfl rfl rfl (upd_same _ _ _) (fun l hl => upd_ne _ hl)
    | found h0 ht hk =>
      left
      have hw : o.tw = 0 := by
        rcases Nat.eq_zero_or_pos o.tw with q | q
        · exact q
        · obtain ⟨t1, t2, t3, _⟩ := hI.tw (by omega)
          obtain ⟨q1, q2, q3⟩ := hok.nx _ p1 _ p2 ht
          have e := hok.one _ _ t1 q1 (t2.trans hk)
          rw [show s.nx (o.pt o.lv) o.lv = too s o from rfl] at e q2
          rw [← e] at q2
          omega
      obtain ⟨c1, c2, c3⟩ := h.cs hw
      rw [ans_sp (o.seen (nmo s o)) s (too s o) true c1] at h5 ⊢
      have hl : ¬ o.cs.length = 0 := fun e => h5 (by show (if o.cs.length = 0 then 5 else 4) = 5; rw [if_pos e])
      rw [cur_1 h0, if_pos hw, cur_4 (show (if o.cs.length = 0 then 5 else 4) = 4 from if_neg hl)]
      have := sm8_ge (f := tau s o) hlv
      rw [tau_at h0] at this
      show o.cs.length + 1 ≤ _
      omega
    | pass h0 ht hk =>
      left
      obtain ⟨q1, q2, q3⟩ := hok.nx _ p1 _ p2 ht
      have hc := cnt_pass (k := o.k) ht q1 (.inr q3) hk
      obtain ⟨o1, ho1⟩ : ∃ o1 : Opm, o1 = { o.seen (nmo s o) with pt := upd o.pt o.lv (too s o) } := ⟨_, rfl⟩
      have l1 : o1.lv = o.lv := by rw [ho1]; rfl
      have s1 : o1.st = 1 := by rw [ho1]; exact h0
      have w1 : o1.tw = o.tw := by rw [ho1]; rfl
      have h1 : o1.h = o.h := by rw [ho1]; rfl
      have c1 : o1.cs = o.cs := by rw [ho1]; rfl
      have k1 : o1.k = o.k := by rw [ho1]; rfl
      have pt1 : o1.pt o.lv = too s o := by rw [ho1]; exact upd_same _ _ _
      have pt2 : ∀ l, l ≠ o.lv → o1.pt l = o.pt l := fun l hl => by rw [ho1]; exact upd_ne _ hl
      have pn2 : ∀ l, l ≠ o.lv → o1.pn l = o.pn l := fun l hl => by rw [ho1]; exact upd_ne _ hl
      rw [← ho1, cur_1 s1, cur_1 h0, l1, pt1, k1, w1, h1, c1]
      have hc2 : cnt s (too s o) o.k < cnt s (o.pt o.lv) o.k := hc
      have key : sm8 (tau s o1) + cnt s (too s o) o.k + 1 ≤ sm8 (tau s o) + cnt s (o.pt o.lv) o.k := by
        refine sm8_swap (f := tau s o) (g := tau s o1) (A := cnt s (o.pt o.lv) o.k) (A' := cnt s (too s o) o.k) (p := o.lv) hlv (fun l hl hne => ?_) ?_
        · rcases Nat.lt_or_ge l o.lv with q | q
          · rw [tau_lo (o := o) q, tau_lo (o := o1) (by omega), w1]; exact Nat.le_refl _
          · rw [tau_hi (o := o1) (by omega) (fun c => by omega), tau_hi (o := o) q (fun c => hne c.1), h1, lev_same (a := o) (b := o1) (pn2 l hne) (pt2 l hne) k1]
            exact Nat.le_refl _
        · have := tau_at (s := s) s1
          rw [l1] at this
          rw [this, tau_at h0]
          omega
      omega
    | take c h0 hl hz hc =>
      left
      obtain ⟨t1, t2, t3, t4, t5⟩ := hI.two h0
      rw [cur_sam (s := s) (s' := s.taken c) (Sam.tw rfl)]
      obtain ⟨o1, ho1⟩ : ∃ o1 : Opm, o1 = { o with cs := o.cs ++ [c] } := ⟨_, rfl⟩
      have s1 : o1.st = 2 := by rw [ho1]; exact h0
      have w1 : o1.tw = 0 := by rw [ho1]; exact t2
      have h1 : o1.h = o.h := by rw [ho1]
      have c1 : o1.cs = o.cs ++ [c] := by rw [ho1]
      have e1 : tau s o1 = tau s o := by rw [ho1]; rfl
      rw [← ho1, cur_23 (.inl h0), cur_23 (.inl s1), e1, w1, h1, c1, t2, if_pos rfl, if_pos rfl, List.length_append, List.length_singleton]
      omega
    | late h0 hl hn =>
      left
      obtain ⟨t1, t2, t3, t4, t5⟩ := hI.two h0
      have h8 := hI.h8 t3
      exact cur_again hlv (.inl h0) (by omega) (by rw [t1]; exact hn) rfl rfl rfl rfl rfl rfl rfl rfl
    | slip h0 hn =>
      left
      have t0 := hI.thr h0
      obtain ⟨t1, t2, t3, t4, t5, t6⟩ := hI.tw t0
      rw [cur_sam (s := s) (Sam.fset t1)]
      exact cur_again hlv (.inr h0) (by omega) hn rfl rfl rfl rfl rfl rfl rfl rfl
theorem cur_le {n : Nat} (hn : s.tw.length ≤ n + 1) (h8 : o.h ≤ 8) (hc : o.cs.length ≤ 8) : cur s o ≤ 9 * n + 40 := by
  have hcn : ∀ i k, cnt s i k ≤ n := fun i k => by have := cnt_le s i k; omega
  have ht : ∀ l, l < 8 → tau s o l ≤ n + 3 := fun l _ => by
    unfold tau lev
    repeat' split
    all_goals (try omega)
    have := hcn (o.pt l) o.k
    omega
  have h1 := sm8_le ht
  have h2 := hcn (o.pt o.lv) o.k
  unfold cur
  repeat' split
  all_goals omega
theorem cur_pos (h : Run s x o) : 1 ≤ cur s o := by
  rcases h.st with q | q | q | q
  · have hI := h.oi (by omega)
    rw [cur_1 q]
    have := sm8_ge (f := tau s o) hI.lv
    rw [tau_at q] at this
    omega
  · have hI := h.oi (by omega)
    obtain ⟨t1, t2, t3, t4, t5⟩ := hI.two q
    have h8 := hI.h8 t3
    rw [cur_23 (.inl q)]
    have := sm8_ge (f := tau s o) hI.lv
    rw [tau_hi (o := o) (Nat.le_refl _) (fun c => by omega), if_pos (by omega)] at this
    have hl : 1 ≤ lev s o o.lv := by unfold lev; split <;> omega
    omega
  · have hI := h.oi (by omega)
    obtain ⟨t1, t2, t3, t4, t5, t6⟩ := hI.tw (hI.thr q)
    rw [cur_23 (.inr q)]
    have := sm8_ge (f := tau s o) hI.lv
    rw [tau_hi (o := o) (Nat.le_refl _) (fun c => by omega), if_pos (by omega)] at this
    have hl : 1 ≤ lev s o o.lv := by unfold lev; split <;> omega
    omega
  · rw [cur_4 q]
    exact List.length_pos_iff.2 (h.four q).2.1
end
end Go.Proofs.YtopihgdbfhiejaaDoor
