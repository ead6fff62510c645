/-
  A step of an operation alone, without memory: it puts its tower in, and raises it.
-/
import Derived.Test.YtmcfonekajieeaaDoorSh3
set_option linter.unusedVariables false
set_option linter.unusedSimpArgs false
namespace Go.Proofs.YtmcfonekajieeaaDoor
open Go.RowKit Go.Maps

section
variable {s s' s'' : Sl} {k : ByteArray} {kind : Nat} {r : Int} {h p z : Nat} {o o' : Opm}

theorem linked_old {i : Nat} {kk : ByteArray} {rr : Int} {cs : List Nat} (hi : i < s.tw.length) {x : Nat} (hx : x < s.tw.length) : ((s.linked i kk rr cs).at x).k = (s.at x).k ∧ ((s.linked i kk rr cs).at x).lk = (s.at x).lk ∧ ((s.linked i kk rr cs).at x).fs = (s.at x).fs ∧ ∀ l, l ≠ 0 → ((s.linked i kk rr cs).at x).ns l = (s.at x).ns l := by
  rw [linked_at hi, if_neg (by omega)]
  split
  · rename_i e
    rw [e]
    exact ⟨rfl, rfl, rfl, fun l hl => upd_ne _ hl⟩
  · exact ⟨rfl, rfl, rfl, fun _ _ => rfl⟩
theorem raised_old {i j l : Nat} (hi : i < s.tw.length) (hj : j < s.tw.length) (x : Nat) : ((s.raised i j l).at x).k = (s.at x).k ∧ (x ≠ j → ((s.raised i j l).at x).lk = (s.at x).lk ∧ ((s.raised i j l).at x).fs = (s.at x).fs) ∧ ∀ y, y ≠ l → ((s.raised i j l).at x).ns y = (s.at x).ns y := by
  rw [raised_at hi hj]
  split
  · rename_i e
    rw [e]
    exact ⟨rfl, fun q => absurd rfl q, fun _ _ => rfl⟩
  · split
    · rename_i e
      rw [e]
      exact ⟨rfl, fun _ => ⟨rfl, rfl⟩, fun y hy => upd_ne _ hy⟩
    · exact ⟨rfl, fun _ => ⟨rfl, rfl⟩, fun _ _ => rfl⟩
theorem bh_same {i num l : Nat} (h1 : s'.tw.length = s.tw.length ∨ (s.tw.length ≤ s'.tw.length ∧ num < s.tw.length)) (h2 : (s'.at i).fs l = (s.at i).fs l) : bh s' i num l = bh s i num l := by
  unfold bh
  rw [h2]
  by_cases q : num = 0
  · rw [if_pos q, if_pos q]
  · rw [if_neg q, if_neg q]
    rcases h1 with e | ⟨e1, e2⟩
    · rw [e]
    · rw [if_neg (by omega), if_neg (by omega)]

/-- It puts its tower in. -/
theorem Alo.put (a : Alo s k kind r h p s' o) (hok : s'.ok) (h0 : o.st = 2) (hs : Stp z s' o s'' o') : (Fin s k kind r h s'' o') ∨ (o'.st ≠ 5 ∧ Alo s k kind r h (p - 1) s'' o') := by
  obtain ⟨a1, a2, a3, a4, a5⟩ : o.st = 2 ∧ ks s' = ks s ∧ s'.sp = o.cs ∧ (h - o.cs.length) + h ≤ p ∧ ∀ x, 1 ≤ x → x < s.tw.length → (s.at x).k ≠ k := by
    rcases a.ph with q | q | q
    · omega
    · exact q
    · omega
  obtain ⟨t1, t2, t3, t4, t5⟩ := a.oi.two h0
  obtain ⟨cs1, cs2⟩ := a.oi.cs t2
  have hk2 : kind = 2 := by rw [← a.ekind]; exact t3
  obtain ⟨e1, e2, e3⟩ := a.eh hk2
  obtain ⟨p1, p2, p3⟩ := a.oi.pt 0 (by omega) (by decide)
  have hlen := ks_len a2
  cases hs with
  | leave q => omega
  | found q => omega
  | pass q => omega
  | raise q => omega
  | slip q => omega
  | late _ hl hn => exact absurd (a.ex 0 (.inr (by omega)) (by omega) (by decide)).symm hn
  | take c _ hl hz hc =>
    refine .inr ⟨show o.st ≠ 5 by omega, ⟨⟨a.oi.lv, a.oi.pt, a.oi.pn, fun _ => ⟨t1, t2, t3, t4, by show (o.cs ++ [c]).length ≤ o.h; simp; omega⟩, a.oi.thr, fun q => absurd t2 q, fun _ => ⟨fun x hx => ?_, ?_⟩, a.oi.h8, by show (o.cs ++ [c]).length ≤ 8; simp; omega⟩, a.ek, a.ekind, a.er, a.eh, a.full, a.code, a.gd, a.kd, a.k2, a.ex, .inr (.inl ⟨h0, a2, by show s'.sp ++ [c] = o.cs ++ [c]; rw [a3], ?_, a5⟩)⟩⟩
    · show x ∈ s'.sp ++ [c]
      have hx2 : x ∈ o.cs ++ [c] := hx
      rw [a3]; exact hx2
    · show (o.cs ++ [c]).Nodup
      rw [List.nodup_append]
      refine ⟨cs2, by simp, fun x hx y hy e => ?_⟩
      simp at hy
      subst hy
      subst e
      exact hc (sp_cells (cs1 x hx))
    · show (h - (o.cs ++ [c]).length) + h ≤ p - 1
      simp; omega
  | link _ hl hn =>
    have hsp2 : (s'.linked (o.pt 0) o.k o.r o.cs).sp = [] := by
      show s'.sp.filter (fun c => !o.cs.contains c) = []
      rw [a3, List.filter_eq_nil_iff]
      intro c hc
      simpa using hc
    have hks : ks (s'.linked (o.pt 0) o.k o.r o.cs) = ks s ++ [(k, r, h)] := by rw [ks_linked, a2, a.ek, a.er, hl, e1]
    have hl2 := linked_len (s := s') (i := o.pt 0) (k := o.k) (r := o.r) (cs := o.cs)
    have hat : (s'.linked (o.pt 0) o.k o.r o.cs).at s'.tw.length = newT s' (o.pt 0) o.k o.r o.cs := by rw [linked_at p1, if_pos rfl]
    by_cases hh : o.lv + 1 = o.h
    · have e0 : ({ o with st := 1, tw := s'.tw.length } : Opm).rose (s'.linked (o.pt 0) o.k o.r o.cs) = ({ o with st := 3, tw := s'.tw.length, lv := o.lv + 1 } : Opm).ans (s'.linked (o.pt 0) o.k o.r o.cs) s'.tw.length false := by
        unfold Opm.rose
        rw [if_pos (show o.lv + 1 = o.h from hh)]
      rw [e0]
      obtain ⟨f1, f2, f3, f4, f5⟩ := ans_nil ({ o with st := 3, tw := s'.tw.length, lv := o.lv + 1 } : Opm) (s'.linked (o.pt 0) o.k o.r o.cs) s'.tw.length false (fun c _ => by rw [hsp2]; simp)
      refine .inl ⟨f1, f5.trans a.code, hsp2, .inr (.inr ⟨hk2, ?_, ?_, f4, hks, a5⟩)⟩
      · rw [f2, hat]; exact a.ek
      · rw [f3, hat]; exact a.er
    · have e0 : ({ o with st := 1, tw := s'.tw.length } : Opm).rose (s'.linked (o.pt 0) o.k o.r o.cs) = { o with st := 3, tw := s'.tw.length, lv := o.lv + 1 } := by
        unfold Opm.rose
        rw [if_neg (show ¬ o.lv + 1 = o.h from hh)]
      rw [e0]
      have hn1 := hok.n1
      refine .inr ⟨show (3 : Nat) ≠ 5 by decide, ⟨⟨show o.lv + 1 < 8 by omega, fun l h1 h8 => ?_, fun l hq h1 h8 => ?_, fun q => absurd q (show ¬ (3 : Nat) = 2 by decide), fun _ => (show s'.tw.length ≠ 0 by omega), fun _ => ?_, fun q => absurd q (show s'.tw.length ≠ 0 by omega), a.oi.h8, a.oi.cl⟩, a.ek, a.ekind, a.er, a.eh, a.full, a.code, a.gd, fun _ => hk2, a.k2, fun l hq h1 h8 => ?_, .inr (.inr ⟨rfl, hks, hsp2, hlen, ?_, a5⟩)⟩⟩
      · have h1' : o.lv + 1 ≤ l := h1
        obtain ⟨q1, q2, q3⟩ := a.oi.pt l (by omega) h8
        obtain ⟨g1, g2, g3, g4⟩ := linked_old (kk := o.k) (rr := o.r) (cs := o.cs) p1 q1
        rw [hl2]
        exact ⟨(by show o.pt l < _; omega), (by show l < ((s'.linked (o.pt 0) o.k o.r o.cs).at (o.pt l)).lk; rw [g2]; exact q2), (by show o.pt l = 0 ∨ Blw ((s'.linked (o.pt 0) o.k o.r o.cs).at (o.pt l)).k o.k; rw [g1]; exact q3)⟩
      · have h1' : o.lv + 1 ≤ l := h1
        obtain ⟨q1, q2, q3⟩ := a.oi.pt l (by omega) h8
        obtain ⟨g1, g2, g3, g4⟩ := linked_old (kk := o.k) (rr := o.r) (cs := o.cs) p1 q1
        obtain ⟨n1, n2⟩ := a.oi.pn l (.inr (by omega)) (by omega) h8
        have eb : bh (s'.linked (o.pt 0) o.k o.r o.cs) (o.pt l) (o.pn l) l = bh s' (o.pt l) (o.pn l) l := bh_same (.inr ⟨by omega, n1⟩) (by rw [g3])
        show o.pn l < _ ∧ (bh _ (o.pt l) (o.pn l) l = 0 ∨ (bh _ (o.pt l) (o.pn l) l < _ ∧ Blw o.k (Sl.at _ (bh _ (o.pt l) (o.pn l) l)).k))
        rw [eb, hl2]
        refine ⟨by omega, n2.imp id (fun q => ⟨by omega, ?_⟩)⟩
        rw [(linked_old p1 q.1).1]
        exact q.2
      · show s'.tw.length < (s'.linked (o.pt 0) o.k o.r o.cs).tw.length ∧ ((s'.linked (o.pt 0) o.k o.r o.cs).at s'.tw.length).k = o.k ∧ ((s'.linked (o.pt 0) o.k o.r o.cs).at s'.tw.length).lk = o.lv + 1 ∧ o.lv + 1 < ((s'.linked (o.pt 0) o.k o.r o.cs).at s'.tw.length).h ∧ ((s'.linked (o.pt 0) o.k o.r o.cs).at s'.tw.length).h = o.h ∧ 1 ≤ o.lv + 1
        rw [hat, hl2]
        exact ⟨by omega, rfl, (by show 1 = _; omega), (by show _ < o.cs.length; omega), hl, by omega⟩
      · have h1' : o.lv + 1 ≤ l := h1
        obtain ⟨q1, q2, q3⟩ := a.oi.pt l (by omega) h8
        show o.pn l = ((s'.linked (o.pt 0) o.k o.r o.cs).at (o.pt l)).ns l
        rw [(linked_old p1 q1).2.2.2 l (by omega)]
        exact a.ex l (.inr (by omega)) (by omega) h8
      · show h - (o.lv + 1) ≤ p - 1
        omega

/-- It raises its tower. -/
theorem Alo.raise (a : Alo s k kind r h p s' o) (hok : s'.ok) (h0 : o.st = 3) (hs : Stp z s' o s'' o') : (Fin s k kind r h s'' o') ∨ (o'.st ≠ 5 ∧ Alo s k kind r h (p - 1) s'' o') := by
  obtain ⟨a1, a2, a3, a4, a5, a6⟩ : o.st = 3 ∧ ks s' = ks s ++ [(k, r, h)] ∧ s'.sp = [] ∧ o.tw = s.tw.length ∧ h - o.lv ≤ p ∧ ∀ x, 1 ≤ x → x < s.tw.length → (s.at x).k ≠ k := by
    rcases a.ph with q | q | q
    · omega
    · omega
    · exact q
  have t0 := a.oi.thr h0
  obtain ⟨t1, t2, t3, t4, t5, t6⟩ := a.oi.tw t0
  have hk2 : kind = 2 := a.kd t0
  obtain ⟨e1, e2, e3⟩ := a.eh hk2
  have hlv := a.oi.lv
  obtain ⟨p1, p2, p3⟩ := a.oi.pt o.lv (Nat.le_refl _) hlv
  have hnt : ∀ l, o.lv ≤ l → l < 8 → o.pt l ≠ o.tw := fun l hl h8 e => by
    have := (a.oi.pt l hl h8).2.1
    rw [e] at this
    omega
  cases hs with
  | leave q => omega
  | found q => omega
  | pass q => omega
  | take c q => omega
  | link q => omega
  | late q => omega
  | slip _ hn => exact absurd (a.ex o.lv (.inr (by omega)) (Nat.le_refl _) hlv).symm hn
  | raise _ hn =>
    have hks : ks (s'.raised (o.pt o.lv) o.tw o.lv) = ks s ++ [(k, r, h)] := by rw [ks_raised]; exact a2
    have hl2 := raised_len (s := s') (i := o.pt o.lv) (j := o.tw) (l := o.lv)
    have hat : (s'.raised (o.pt o.lv) o.tw o.lv).at o.tw = { s'.at o.tw with fs := upd (s'.at o.tw).fs o.lv (s'.nx (o.pt o.lv) o.lv), lk := o.lv + 1 } := by rw [raised_at p1 t1, if_pos rfl]
    have hr2 : (s'.at o.tw).r = r := by
      have hx := congrArg (fun l : List (ByteArray × Int × Nat) => l[o.tw]?) a2
      unfold ks at hx
      simp only [List.getElem?_map, at_some t1, Option.map_some] at hx
      rw [List.getElem?_append_right (by simp [a4])] at hx
      simp [a4] at hx
      rw [a4]
      exact hx.2.1
    by_cases hh : o.lv + 1 = o.h
    · have e0 : o.rose (s'.raised (o.pt o.lv) o.tw o.lv) = ({ o with st := 3, lv := o.lv + 1 } : Opm).ans (s'.raised (o.pt o.lv) o.tw o.lv) o.tw false := by
        unfold Opm.rose
        rw [if_pos hh]
      rw [e0]
      obtain ⟨f1, f2, f3, f4, f5⟩ := ans_nil ({ o with st := 3, lv := o.lv + 1 } : Opm) (s'.raised (o.pt o.lv) o.tw o.lv) o.tw false (fun c _ => by show c ∉ s'.sp; rw [a3]; simp)
      refine .inl ⟨f1, f5.trans a.code, a3, .inr (.inr ⟨hk2, ?_, ?_, f4, hks, a6⟩)⟩
      · rw [f2, hat]; exact t2.trans a.ek
      · rw [f3, hat]; exact hr2
    · have e0 : o.rose (s'.raised (o.pt o.lv) o.tw o.lv) = { o with st := 3, lv := o.lv + 1 } := by
        unfold Opm.rose
        rw [if_neg hh]
      rw [e0]
      refine .inr ⟨show (3 : Nat) ≠ 5 by decide, ⟨⟨show o.lv + 1 < 8 by omega, fun l h1 h8 => ?_, fun l hq h1 h8 => ?_, fun q => absurd q (show ¬ (3 : Nat) = 2 by decide), fun _ => t0, fun _ => ?_, fun q => absurd q t0, a.oi.h8, a.oi.cl⟩, a.ek, a.ekind, a.er, a.eh, a.full, a.code, a.gd, a.kd, a.k2, fun l hq h1 h8 => ?_, .inr (.inr ⟨rfl, hks, a3, a4, ?_, a6⟩)⟩⟩
      · have h1' : o.lv + 1 ≤ l := h1
        obtain ⟨q1, q2, q3⟩ := a.oi.pt l (by omega) h8
        obtain ⟨g1, g2, g3⟩ := raised_old (l := o.lv) p1 t1 (o.pt l)
        have g4 := g2 (hnt l (by omega) h8)
        rw [hl2]
        exact ⟨q1, (by show l < ((s'.raised (o.pt o.lv) o.tw o.lv).at (o.pt l)).lk; rw [g4.1]; exact q2), (by show o.pt l = 0 ∨ Blw ((s'.raised (o.pt o.lv) o.tw o.lv).at (o.pt l)).k o.k; rw [g1]; exact q3)⟩
      · have h1' : o.lv + 1 ≤ l := h1
        obtain ⟨n1, n2⟩ := a.oi.pn l (.inr (by omega)) (by omega) h8
        obtain ⟨g1, g2, g3⟩ := raised_old (l := o.lv) p1 t1 (o.pt l)
        have g4 := g2 (hnt l (by omega) h8)
        have eb : bh (s'.raised (o.pt o.lv) o.tw o.lv) (o.pt l) (o.pn l) l = bh s' (o.pt l) (o.pn l) l := bh_same (.inl hl2) (by rw [g4.2])
        show o.pn l < _ ∧ (bh _ (o.pt l) (o.pn l) l = 0 ∨ (bh _ (o.pt l) (o.pn l) l < _ ∧ Blw o.k (Sl.at _ (bh _ (o.pt l) (o.pn l) l)).k))
        rw [eb, hl2]
        refine ⟨n1, n2.imp id (fun q => ⟨q.1, ?_⟩)⟩
        rw [(raised_old p1 t1 _).1]
        exact q.2
      · show o.tw < (s'.raised (o.pt o.lv) o.tw o.lv).tw.length ∧ ((s'.raised (o.pt o.lv) o.tw o.lv).at o.tw).k = o.k ∧ ((s'.raised (o.pt o.lv) o.tw o.lv).at o.tw).lk = o.lv + 1 ∧ o.lv + 1 < ((s'.raised (o.pt o.lv) o.tw o.lv).at o.tw).h ∧ ((s'.raised (o.pt o.lv) o.tw o.lv).at o.tw).h = o.h ∧ 1 ≤ o.lv + 1
        rw [hat, hl2]
        exact ⟨t1, t2, rfl, (by show _ < (s'.at o.tw).h; omega), t5, by omega⟩
      · have h1' : o.lv + 1 ≤ l := h1
        show o.pn l = ((s'.raised (o.pt o.lv) o.tw o.lv).at (o.pt l)).ns l
        rw [(raised_old p1 t1 _).2.2 l (by omega)]
        exact a.ex l (.inr (by omega)) (by omega) h8
      · show h - (o.lv + 1) ≤ p - 1
        omega
end
end Go.Proofs.YtmcfonekajieeaaDoor
