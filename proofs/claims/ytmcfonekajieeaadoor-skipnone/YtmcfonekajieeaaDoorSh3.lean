/-
  A step of an operation alone, without memory.
-/
import Derived.Test.YtmcfonekajieeaaDoorSh2
set_option linter.unusedVariables false
set_option linter.unusedSimpArgs false
namespace Go.Proofs.YtmcfonekajieeaaDoor
open Go.RowKit Go.Maps

section
variable {s s' s'' : Sl} {k : ByteArray} {kind : Nat} {r : Int} {h p z : Nat} {o o' : Opm}

/-- It looks. -/
theorem Alo.look (a : Alo s k kind r h p s' o) (hok : s.ok) (hsp : s.sp = []) (h0 : o.st = 1) (hs : Stp z s' o s'' o') : (Fin s k kind r h s'' o') ∨ (o'.st ≠ 5 ∧ Alo s k kind r h (p - 1) s'' o') := by
  obtain ⟨a1, a2, a3, a4, a5⟩ : o.st = 1 ∧ o.tw = 0 ∧ o.cs = [] ∧ s' = s ∧ cnt s (o.pt o.lv) k + o.lv + 1 + (if kind = 2 then 2 * h else 0) ≤ p := by
    rcases a.ph with q | q | q
    · exact q
    · omega
    · omega
  subst a4
  have hlv := a.oi.lv
  obtain ⟨p1, p2, p3⟩ := a.oi.pt o.lv (Nat.le_refl _) hlv
  have hto0 : too s' o ≠ 0 → 1 ≤ too s' o ∧ too s' o < s'.tw.length ∧ o.lv < (s'.at (too s' o)).lk := fun q => ⟨by omega, (hok.nx _ p1 _ p2 q).1, (hok.nx _ p1 _ p2 q).2.1⟩
  have hcsn : ∀ c ∈ o.cs, c ∉ s'.sp := fun c hc => by rw [a3] at hc; cases hc
  have hseen : upd o.pn o.lv (nmo s' o) o.lv = nmo s' o := upd_same _ _ _
  have hbh : bh s' (o.pt o.lv) (nmo s' o) o.lv = too s' o := bh_nx hok p1
  have hnl : nmo s' o < s'.tw.length := hok.nl _ p1 _
  cases hs with
  | leave _ ht =>
    have ht2 : too s' o = 0 ∨ (too s' o < s'.tw.length ∧ Blw o.k (s'.at (too s' o)).k) := by
      by_cases q : too s' o = 0
      · exact .inl q
      · exact .inr ⟨(hto0 q).2.1, ht.resolve_left q⟩
    by_cases hl0 : o.lv = 0
    · -- the lowest level
      have hex : s'.nx (o.pt o.lv) 0 = too s' o := by unfold too; rw [hl0]
      have hends : ∀ x, 1 ≤ x → x < s'.tw.length → Blw (s'.at x).k o.k ∨ (too s' o ≠ 0 ∧ ¬ Blw (s'.at x).k (s'.at (too s' o)).k) := fun x h1 hx => by
        have q := hok.ends (k := o.k) p1 p3 x h1 hx
        rw [hex] at q
        exact q
      have e0 : (o.seen (nmo s' o)).left s' (too s' o) = if o.kind = 0 then (o.seen (nmo s' o)).ans s' 0 false else if o.kind = 1 then (o.seen (nmo s' o)).ans s' (too s' o) (decide (too s' o ≠ 0)) else { o.seen (nmo s' o) with st := 2 } := by
        unfold Opm.left
        rw [if_neg (show ¬ (o.seen (nmo s' o)).tw ≠ 0 from fun q => q a2), if_neg (show ¬ (o.seen (nmo s' o)).lv ≠ 0 from fun q => q hl0)]
        show (if o.kind = 0 then _ else if o.kind = 1 then _ else if o.full = true then _ else _) = _
        rw [a.full]
        rfl
      rw [e0]
      have hsn := ans_nil (o.seen (nmo s' o)) s'
      have hnok : ∀ x, 1 ≤ x → x < s'.tw.length → (s'.at x).k ≠ o.k := fun x h1 hx q => by
        rcases hends x h1 hx with q2 | ⟨q2, q3⟩
        · rw [q] at q2; exact Blw.irrefl q2
        · rw [q] at q3
          exact q3 (ht.resolve_left q2)
      by_cases k0 : o.kind = 0
      · rw [if_pos k0]
        obtain ⟨f1, f2, f3, f4, f5⟩ := hsn 0 false hcsn
        refine .inl ⟨f1, f5.trans a.code, hsp, .inr (.inl ⟨by rw [← a.ekind, k0]; decide, by rw [f2, hok.hd.1], by rw [f3, hok.hd.2.2.2], f4, rfl, fun x h1 hx => ⟨fun q => absurd q (by rw [← a.ekind, k0]; decide), by rw [← a.ek]; exact hnok x h1 hx⟩⟩)⟩
      · rw [if_neg k0]
        by_cases k1 : o.kind = 1
        · rw [if_pos k1]
          obtain ⟨f1, f2, f3, f4, f5⟩ := hsn (too s' o) (decide (too s' o ≠ 0)) hcsn
          by_cases q0 : too s' o = 0
          · refine .inl ⟨f1, f5.trans a.code, hsp, .inr (.inl ⟨by rw [← a.ekind, k1]; decide, by rw [f2, q0, hok.hd.1], by rw [f3, q0, hok.hd.2.2.2], by rw [f4, q0]; rfl, rfl, fun x h1 hx => ⟨fun _ => ?_, by rw [← a.ek]; exact hnok x h1 hx⟩⟩)⟩
            rcases hends x h1 hx with q2 | ⟨q2, q3⟩
            · rw [← a.ek]; exact q2
            · exact absurd q0 q2
          · have hq := hto0 q0
            refine .inl ⟨f1, f5.trans a.code, hsp, .inl ⟨too s' o, hq.1, hq.2.1, f2, f3, by rw [f4]; exact decide_eq_true q0, rfl, .inr ⟨by rw [← a.ekind]; exact k1, by rw [← a.ek]; exact ht.resolve_left q0, fun x h1 hx => ?_⟩⟩⟩
            rw [← a.ek]
            exact (hends x h1 hx).imp id (fun q => q.2)
        · rw [if_neg k1]
          have hk2 : kind = 2 := a.k2 (by rw [← a.ekind]; exact k0) (by rw [← a.ekind]; exact k1)
          have heh := a.eh hk2
          rw [if_pos hk2] at a5
          refine .inr ⟨show (2 : Nat) ≠ 5 by decide, ⟨⟨hlv, a.oi.pt, fun l _ h1 h8 => ?_, fun _ => ⟨hl0, a2, by show o.kind = 2; rw [a.ekind]; exact hk2, by show good o.k = true; rw [a.ek]; exact a.gd hk2, by show o.cs.length ≤ o.h; rw [a3]; simp⟩, fun q => absurd q (show ¬ (2 : Nat) = 3 by decide), fun q => absurd a2 q, fun _ => ⟨fun c hc => (by have q : c ∈ o.cs := hc; rw [a3] at q; cases q), (by show o.cs.Nodup; rw [a3]; exact List.nodup_nil)⟩, a.oi.h8, a.oi.cl⟩, a.ek, a.ekind, a.er, a.eh, a.full, a.code, a.gd, a.kd, a.k2, fun l _ h1 h8 => ?_, .inr (.inl ⟨rfl, rfl, by rw [hsp]; exact a3.symm, ?_, fun x h1 hx => by rw [← a.ek]; exact hnok x h1 hx⟩)⟩⟩
          · show upd o.pn o.lv (nmo s' o) l < _ ∧ (bh s' (o.pt l) (upd o.pn o.lv (nmo s' o) l) l = 0 ∨ (bh s' (o.pt l) (upd o.pn o.lv (nmo s' o) l) l < _ ∧ Blw o.k (s'.at (bh s' (o.pt l) (upd o.pn o.lv (nmo s' o) l) l)).k))
            by_cases q : l = o.lv
            · subst q
              rw [hseen, hbh]
              exact ⟨hnl, ht2⟩
            · rw [upd_ne _ q]
              exact a.oi.pn l (.inl (by omega)) (by omega) h8
          · show upd o.pn o.lv (nmo s' o) l = (s'.at (o.pt l)).ns l
            by_cases q : l = o.lv
            · subst q; rw [hseen]; rfl
            · rw [upd_ne _ q]; exact a.ex l (.inl (by omega)) (by omega) h8
          · show (h - o.cs.length) + h ≤ p - 1
            rw [a3]; simp; omega
    · -- one level down
      have e0 : (o.seen (nmo s' o)).left s' (too s' o) = { o.seen (nmo s' o) with lv := o.lv - 1, pt := upd o.pt (o.lv - 1) (o.pt o.lv) } := by
        unfold Opm.left
        rw [if_neg (show ¬ (o.seen (nmo s' o)).tw ≠ 0 from fun q => q a2), if_pos (show (o.seen (nmo s' o)).lv ≠ 0 from hl0)]
        rfl
      rw [e0]
      have hpt2 : ∀ l, o.lv ≤ l → upd o.pt (o.lv - 1) (o.pt o.lv) l = o.pt l := fun l hl => upd_ne _ (by omega)
      refine .inr ⟨show o.st ≠ 5 by omega, ⟨⟨show o.lv - 1 < 8 by omega, fun l h1 h8 => ?_, fun l hq h1 h8 => ?_, fun q => absurd (show o.st = 2 from q) (by omega), fun q => absurd (show o.st = 3 from q) (by omega), fun q => absurd a2 q, a.oi.cs, a.oi.h8, a.oi.cl⟩, a.ek, a.ekind, a.er, a.eh, a.full, a.code, a.gd, a.kd, a.k2, fun l hq h1 h8 => ?_, .inl ⟨h0, a2, a3, rfl, ?_⟩⟩⟩
      · show upd o.pt (o.lv - 1) (o.pt o.lv) l < _ ∧ l < (s'.at (upd o.pt (o.lv - 1) (o.pt o.lv) l)).lk ∧ (upd o.pt (o.lv - 1) (o.pt o.lv) l = 0 ∨ Blw (s'.at (upd o.pt (o.lv - 1) (o.pt o.lv) l)).k o.k)
        by_cases q : l = o.lv - 1
        · subst q
          rw [upd_same]
          exact ⟨p1, by omega, p3⟩
        · have h1' : o.lv - 1 ≤ l := h1
          rw [hpt2 l (by omega)]
          exact a.oi.pt l (by omega) h8
      · have hl : o.lv ≤ l := by
          rcases hq with q | q
          · have : o.lv - 1 < l := q; omega
          · exact absurd h0 q
        show upd o.pn o.lv (nmo s' o) l < _ ∧ (bh s' (upd o.pt (o.lv - 1) (o.pt o.lv) l) (upd o.pn o.lv (nmo s' o) l) l = 0 ∨ (bh s' (upd o.pt (o.lv - 1) (o.pt o.lv) l) (upd o.pn o.lv (nmo s' o) l) l < _ ∧ Blw o.k (s'.at (bh s' (upd o.pt (o.lv - 1) (o.pt o.lv) l) (upd o.pn o.lv (nmo s' o) l) l)).k))
        rw [hpt2 l hl]
        by_cases q : l = o.lv
        · subst q
          rw [hseen, hbh]
          exact ⟨hnl, ht2⟩
        · rw [upd_ne _ q]
          exact a.oi.pn l (.inl (by omega)) hl h8
      · have hl : o.lv ≤ l := by
          rcases hq with q | q
          · have : o.lv - 1 < l := q; omega
          · exact absurd h0 q
        show upd o.pn o.lv (nmo s' o) l = (s'.at (upd o.pt (o.lv - 1) (o.pt o.lv) l)).ns l
        rw [hpt2 l hl]
        by_cases q : l = o.lv
        · subst q; rw [hseen]; rfl
        · rw [upd_ne _ q]; exact a.ex l (.inl (by omega)) hl h8
      · show cnt s' (upd o.pt (o.lv - 1) (o.pt o.lv) (o.lv - 1)) k + (o.lv - 1) + 1 + _ ≤ p - 1
        rw [upd_same]
        omega
  | found _ ht hk =>
    obtain ⟨f1, f2, f3, f4, f5⟩ := ans_nil (o.seen (nmo s' o)) s' (too s' o) true hcsn
    have hq := hto0 ht
    exact .inl ⟨f1, f5.trans a.code, hsp, .inl ⟨too s' o, hq.1, hq.2.1, f2, f3, f4, rfl, .inl (by rw [← a.ek]; exact hk.symm)⟩⟩
  | pass _ ht hk =>
    have hq := hto0 ht
    have hxi : o.pt o.lv = 0 ∨ Blw (s'.at (o.pt o.lv)).k (s'.at (too s' o)).k := .inr (hok.nx _ p1 _ p2 ht).2.2
    have hc := cnt_pass (k := k) ht hq.2.1 hxi (by rw [← a.ek]; exact hk)
    refine .inr ⟨show o.st ≠ 5 by omega, ⟨⟨hlv, fun l h1 h8 => ?_, fun l hq2 h1 h8 => ?_, fun q => absurd (show o.st = 2 from q) (by omega), fun q => absurd (show o.st = 3 from q) (by omega), fun q => absurd a2 q, a.oi.cs, a.oi.h8, a.oi.cl⟩, a.ek, a.ekind, a.er, a.eh, a.full, a.code, a.gd, a.kd, a.k2, fun l hq2 h1 h8 => ?_, .inl ⟨h0, a2, a3, rfl, ?_⟩⟩⟩
    · show upd o.pt o.lv (too s' o) l < _ ∧ l < (s'.at (upd o.pt o.lv (too s' o) l)).lk ∧ (upd o.pt o.lv (too s' o) l = 0 ∨ Blw (s'.at (upd o.pt o.lv (too s' o) l)).k o.k)
      by_cases q : l = o.lv
      · subst q
        rw [upd_same]
        exact ⟨hq.2.1, hq.2.2, .inr hk⟩
      · rw [upd_ne _ q]
        exact a.oi.pt l h1 h8
    · have hl : o.lv < l := by
        rcases hq2 with q | q
        · exact q
        · exact absurd h0 q
      show upd o.pn o.lv (nmo s' o) l < _ ∧ (bh s' (upd o.pt o.lv (too s' o) l) (upd o.pn o.lv (nmo s' o) l) l = 0 ∨ (bh s' (upd o.pt o.lv (too s' o) l) (upd o.pn o.lv (nmo s' o) l) l < _ ∧ Blw o.k (s'.at (bh s' (upd o.pt o.lv (too s' o) l) (upd o.pn o.lv (nmo s' o) l) l)).k))
      rw [upd_ne _ (show l ≠ o.lv by omega), upd_ne _ (show l ≠ o.lv by omega)]
      exact a.oi.pn l (.inl hl) h1 h8
    · have hl : o.lv < l := by
        rcases hq2 with q | q
        · exact q
        · exact absurd h0 q
      show upd o.pn o.lv (nmo s' o) l = (s'.at (upd o.pt o.lv (too s' o) l)).ns l
      rw [upd_ne _ (show l ≠ o.lv by omega), upd_ne _ (show l ≠ o.lv by omega)]
      exact a.ex l (.inl hl) h1 h8
    · show cnt s' (upd o.pt o.lv (too s' o) o.lv) k + o.lv + 1 + _ ≤ p - 1
      rw [upd_same]
      omega
  | take c q => omega
  | link q => omega
  | late q => omega
  | raise q => omega
  | slip q => omega
end
end Go.Proofs.YtmcfonekajieeaaDoor
