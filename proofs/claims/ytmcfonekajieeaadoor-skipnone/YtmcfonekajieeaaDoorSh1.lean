/-
  A step, whatever the operation is at.
-/
import Derived.Test.YtmcfonekajieeaaDoorSc4
import Derived.Test.YtmcfonekajieeaaDoorSc5
import Derived.Test.YtmcfonekajieeaaDoorSd2
import Derived.Test.YtmcfonekajieeaaDoorSd3
import Derived.Test.YtmcfonekajieeaaDoorSe2
import Derived.Test.YtmcfonekajieeaaDoorSf2
import Derived.Test.YtmcfonekajieeaaDoorSg2
import Derived.Test.YtmcfonekajieeaaDoorSg3
set_option linter.unusedVariables false
set_option linter.unusedSimpArgs false
namespace Go.Proofs.YtmcfonekajieeaaDoor
open Go.RowKit Go.Maps

/-- A list in memory, of an arena of z cells of its own; at most M steps were done there. -/
def LT (w : World) (K : Nat → Prop) (lb d z M : Nat) (s : Sl) : Prop :=
  ∃ g gt tc sv T N m F, Lm w K lb d g gt tc sv T N m F s ∧ s.ok ∧ s.cw T N ∧ N.length = z ∧ 0 ≤ m ∧ m ≤ (M : Int)

/-- What the cell of an operation's place has now; what stands behind it. -/
def nmo (s : Sl) (o : Opm) : Nat := (s.at (o.pt o.lv)).ns o.lv
def too (s : Sl) (o : Opm) : Nat := s.nx (o.pt o.lv) o.lv

/-- Where an operation is. -/
structure OI (s : Sl) (o : Opm) : Prop where
  lv : o.lv < 8
  pt : ∀ l, o.lv ≤ l → l < 8 → o.pt l < s.tw.length ∧ l < (s.at (o.pt l)).lk ∧ (o.pt l = 0 ∨ Blw (s.at (o.pt l)).k o.k)
  pn : ∀ l, (o.lv < l ∨ o.st ≠ 1) → o.lv ≤ l → l < 8 → o.pn l < s.tw.length ∧ (bh s (o.pt l) (o.pn l) l = 0 ∨ (bh s (o.pt l) (o.pn l) l < s.tw.length ∧ Blw o.k (s.at (bh s (o.pt l) (o.pn l) l)).k))
  two : o.st = 2 → o.lv = 0 ∧ o.tw = 0 ∧ o.kind = 2 ∧ good o.k = true ∧ o.cs.length ≤ o.h
  thr : o.st = 3 → o.tw ≠ 0
  tw : o.tw ≠ 0 → o.tw < s.tw.length ∧ (s.at o.tw).k = o.k ∧ (s.at o.tw).lk = o.lv ∧ o.lv < (s.at o.tw).h ∧ (s.at o.tw).h = o.h ∧ 1 ≤ o.lv
  cs : o.tw = 0 → (∀ c ∈ o.cs, c ∈ s.sp) ∧ o.cs.Nodup
  h8 : o.kind = 2 → 1 ≤ o.h ∧ o.h ≤ 8
  cl : o.cs.length ≤ 8

/-- A step. -/
inductive Stp (z : Nat) (s : Sl) (o : Opm) : Sl → Opm → Prop
  | leave (h0 : o.st = 1) (ht : too s o = 0 ∨ Blw o.k (s.at (too s o)).k) : Stp z s o s ((o.seen (nmo s o)).left s (too s o))
  | found (h0 : o.st = 1) (ht : too s o ≠ 0) (hk : o.k = (s.at (too s o)).k) : Stp z s o s ((o.seen (nmo s o)).ans s (too s o) true)
  | pass (h0 : o.st = 1) (ht : too s o ≠ 0) (hk : Blw (s.at (too s o)).k o.k) : Stp z s o s { o.seen (nmo s o) with pt := upd o.pt o.lv (too s o) }
  | take (c : Nat) (h0 : o.st = 2) (hl : o.cs.length < o.h) (hz : s.cells.length < z) (hc : c ∉ s.cells) : Stp z s o (s.taken c) { o with cs := o.cs ++ [c] }
  | link (h0 : o.st = 2) (hl : o.cs.length = o.h) (hn : (s.at (o.pt 0)).ns 0 = o.pn 0) : Stp z s o (s.linked (o.pt 0) o.k o.r o.cs) (({ o with st := 1, tw := s.tw.length } : Opm).rose (s.linked (o.pt 0) o.k o.r o.cs))
  | late (h0 : o.st = 2) (hl : o.cs.length = o.h) (hn : (s.at (o.pt 0)).ns 0 ≠ o.pn 0) : Stp z s o s { o with st := 1 }
  | raise (h0 : o.st = 3) (hn : nmo s o = o.pn o.lv) : Stp z s o (s.raised (o.pt o.lv) o.tw o.lv) (o.rose (s.raised (o.pt o.lv) o.tw o.lv))
  | slip (h0 : o.st = 3) (hn : nmo s o ≠ o.pn o.lv) : Stp z s o (s.fset o.tw o.lv (bh s (o.pt o.lv) (o.pn o.lv) o.lv)) { o with st := 1 }

section
variable {w : World} {K B : Nat → Prop} {lb d z M : Nat} {s : Sl} {ob : Nat} {cv : Value} {o : Opm}

theorem good_le {s : Sl} (h : s.ok) {i : Nat} (hi : i < s.tw.length) : (s.at i).k.size ≤ 16 := by
  rcases Nat.eq_zero_or_pos i with e | e
  · rw [e, h.hd.1]; simp
  · exact (good_size (h.gd i e hi)).2
theorem tw_le {s : Sl} {T : List Bool} {N : List Int} (ho : s.ok) (h : s.cw T N) : s.tw.length ≤ s.cells.length := by
  have key : ∀ l : List Tw, (∀ t ∈ l, 1 ≤ t.h) → l.length ≤ ((l.map Tw.cells).flatten).length := by
    intro l
    induction l with
    | nil => intro _; simp
    | cons t ts ih =>
      intro hh
      have h1 := hh t (by simp)
      have h2 := ih (fun x hx => hh x (by simp [hx]))
      simp [Tw.cells] at h2 ⊢
      omega
  have h1 : ∀ t ∈ s.tw, 1 ≤ t.h := fun t ht => by
    obtain ⟨i, hi, rfl⟩ := List.getElem_of_mem ht
    have ea : s.at i = s.tw[i] := by simp [Sl.at, List.getD, List.getElem?_eq_getElem hi]
    have := ho.sh i hi
    rw [ea] at this
    omega
  have := key s.tw h1
  unfold Sl.cells Sl.own
  rw [List.length_append]
  omega
theorem bh_nx {s : Sl} (h : s.ok) {i l : Nat} (hi : i < s.tw.length) : bh s i ((s.at i).ns l) l = s.nx i l := by
  unfold bh Sl.nx
  have := h.nl i hi l
  by_cases q : (s.at i).ns l = 0
  · rw [if_pos q, if_pos q]
  · rw [if_neg q, if_neg q, if_neg (by omega)]

set_option maxHeartbeats 2000000 in
theorem LT.step (h : LT w K lb d z M s) (ho : Ob w B ob lb cv o) (hKB : ∀ j, K j → ¬ B j) (hI : OI s o) (hst : o.st = 1 ∨ o.st = 2 ∨ o.st = 3) (hroom : o.st = 2 → o.cs.length < o.h → s.cells.length < z) (hM : M < 2305843009213693952) :
    Calls Tryd.prog 20 #[.pointer (some ⟨ob, 0, none⟩)] w fun e w' => ∃ s' o' K' B' cv', e = .returned (.bool (decide (o'.st = 5))) ∧ Stp z s o s' o' ∧ LT w' K' lb d z (M + 1) s' ∧ Ob w' B' ob lb cv' o' ∧ Nx w w' K B K' B' := by
  obtain ⟨g, gt, tc, sv, T, N, m, F, hL, hok, hcw, hz, hm0, hmM⟩ := h
  have hm : 0 ≤ m ∧ m < 4611686018427387904 := by omega
  have hNl : N.length ≤ 65536 := hL.aw.one.2
  have hTl : T.length = N.length := hL.aw.len
  have hcl := hcw.le
  have htl := tw_le hok hcw
  have hspl : s.sp.length ≤ s.cells.length := by unfold Sl.cells; rw [List.length_append]; omega
  have hlv := hI.lv
  obtain ⟨p1, p2, p3⟩ := hI.pt o.lv (Nat.le_refl _) hlv
  have hsh := hok.sh _ p1
  have hcell : (s.at (o.pt o.lv)).cs o.lv ∈ s.cells := own_cells (cs_own p1 (by omega))
  have ht := hcw.tk _ hcell
  have hN : N.getD ((s.at (o.pt o.lv)).cs o.lv) 0 = ((nmo s o : Nat) : Int) := hcw.num _ p1 _ (by omega)
  have hnl : nmo s o < s.tw.length := hok.nl _ p1 _
  have hob := ho.om.lt
  have htol : too s o < s.tw.length := by
    by_cases q : too s o = 0
    · rw [q]; exact hok.n1
    · exact (hok.nx _ p1 _ p2 q).1
  have hbh : too s o = bh s (o.pt o.lv) (nmo s o) o.lv := (bh_nx hok p1).symm
  have c21 := ho.om.cells.2.2.2.2.1
  have mk : ∀ {w' : World} {N' : List Int} {m' : Int} {K' : Nat → Prop} {gt' tc' : Nat} {sv' : Value} {T' : List Bool} {F' : List Nat} {s' : Sl}, Lm w' K' lb d g gt' tc' sv' T' N' m' F' s' → s'.ok → s'.cw T' N' → N'.length = N.length → 0 ≤ m' → m' ≤ m + 1 → LT w' K' lb d z (M + 1) s' := fun a1 a2 a3 a4 a5 a6 => ⟨_, _, _, _, _, _, _, _, a1, a2, a3, by omega, a5, by omega⟩
  rcases hst with h0 | h0 | h0
  · rw [h0] at c21
    -- it looks
    by_cases hto : too s o = 0
    · refine (step_look (R := fun w' st => ∃ cv' o', o' = (o.seen (nmo s o)).left s (too s o) ∧ st = o'.st ∧ Lm w' K lb d g gt tc sv T N (m + 1) F s ∧ Ob w' B ob lb cv' o' ∧ Fr (fun j => K j ∨ B j) w w') c21 hob (fun u fu => (look_end (hL.keep fu (fun _ _ e => e) (fun e => e)) (ho.keep fu (fun _ _ e => e)) hKB rfl hlv rfl p1 ht hN (by omega) hbh htol hm (by have := hI.cl; omega) hto).mono ?_)).mono ?_
      · rintro e w' ⟨rfl, cv', q1, q2, q3⟩
        exact ⟨rfl, _, q2.om.cells.2.2.2.2.1, cv', _, rfl, rfl, q1, q2, (fu.mono (fun _ _ e => e.elim)).trans q3 (fun j e => .inl e)⟩
      · rintro e w' ⟨st, rfl, cv', o', rfl, rfl, q1, q2, q3⟩
        exact ⟨s, _, K, B, cv', rfl, .leave h0 (.inl hto), mk q1 hok hcw rfl (by omega) (by omega), q2, Nx.same hKB q3⟩
    · have hto1 : 1 ≤ too s o := by omega
      have hgk := good_le hok htol
      by_cases hlt : Blw o.k (s.at (too s o)).k
      · refine (step_look (R := fun w' st => ∃ cv' o', o' = (o.seen (nmo s o)).left s (too s o) ∧ st = o'.st ∧ Lm w' K lb d g gt tc sv T N (m + 1) F s ∧ Ob w' B ob lb cv' o' ∧ Fr (fun j => K j ∨ B j) w w') c21 hob (fun u fu => (look_leave (hL.keep fu (fun _ _ e => e) (fun e => e)) (ho.keep fu (fun _ _ e => e)) hKB rfl hlv rfl p1 ht hN (by omega) hbh htol hm (by have := hI.cl; omega) hto ((KL_iff (.inr hgk)).2 hlt)).mono ?_)).mono ?_
        · rintro e w' ⟨rfl, cv', q1, q2, q3⟩
          exact ⟨rfl, _, q2.om.cells.2.2.2.2.1, cv', _, rfl, rfl, q1, q2, (fu.mono (fun _ _ e => e.elim)).trans q3 (fun j e => .inl e)⟩
        · rintro e w' ⟨st, rfl, cv', o', rfl, rfl, q1, q2, q3⟩
          exact ⟨s, _, K, B, cv', rfl, .leave h0 (.inr hlt), mk q1 hok hcw rfl (by omega) (by omega), q2, Nx.same hKB q3⟩
      · have hnlt : ¬ KL o.k < KL (s.at (too s o)).k := fun q => hlt ((KL_iff (.inr hgk)).1 q)
        by_cases heq : o.k = (s.at (too s o)).k
        · refine (step_look (R := fun w' st => ∃ cv' o', o' = (o.seen (nmo s o)).ans s (too s o) true ∧ st = o'.st ∧ Lm w' K lb d g gt tc sv T N (m + 1) F s ∧ Ob w' B ob lb cv' o' ∧ Fr (fun j => K j ∨ B j) w w') c21 hob (fun u fu => (look_found (hL.keep fu (fun _ _ e => e) (fun e => e)) (ho.keep fu (fun _ _ e => e)) hKB rfl hlv rfl p1 ht hN (by omega) hbh htol hm (by have := hI.cl; omega) hto hnlt ((KL_eq (.inr hgk)).2 heq)).mono ?_)).mono ?_
          · rintro e w' ⟨rfl, cv', q1, q2, q3⟩
            exact ⟨rfl, _, q2.om.cells.2.2.2.2.1, cv', _, rfl, rfl, q1, q2, (fu.mono (fun _ _ e => e.elim)).trans q3 (fun j e => .inl e)⟩
          · rintro e w' ⟨st, rfl, cv', o', rfl, rfl, q1, q2, q3⟩
            exact ⟨s, _, K, B, cv', rfl, .found h0 hto heq, mk q1 hok hcw rfl (by omega) (by omega), q2, Nx.same hKB q3⟩
        · have hgt : Blw (s.at (too s o)).k o.k := by
            rcases Blw.tri o.k (s.at (too s o)).k with q | q | q
            · exact absurd q hlt
            · exact absurd q heq
            · exact q
          refine (step_look (R := fun w' st => ∃ cv' o', o' = { o.seen (nmo s o) with pt := upd o.pt o.lv (too s o) } ∧ st = o'.st ∧ Lm w' K lb d g gt tc sv T N (m + 1) F s ∧ Ob w' B ob lb cv' o' ∧ Fr (fun j => K j ∨ B j) w w') c21 hob (fun u fu => (look_pass (hL.keep fu (fun _ _ e => e) (fun e => e)) (ho.keep fu (fun _ _ e => e)) hKB rfl hlv rfl p1 ht hN (by omega) hbh htol hm (by have := hI.cl; omega) hto hnlt (fun q => heq ((KL_eq (.inr hgk)).1 q))).mono ?_)).mono ?_
          · rintro e w' ⟨rfl, cv', q1, q2, q3⟩
            exact ⟨rfl, _, q2.om.cells.2.2.2.2.1, cv', _, rfl, rfl, q1, q2, (fu.mono (fun _ _ e => e.elim)).trans q3 (fun j e => .inl e)⟩
          · rintro e w' ⟨st, rfl, cv', o', rfl, rfl, q1, q2, q3⟩
            exact ⟨s, _, K, B, cv', rfl, .pass h0 hto hgt, mk q1 hok hcw rfl (by omega) (by omega), q2, Nx.same hKB q3⟩
  · rw [h0] at c21
    -- it puts
    obtain ⟨t1, t2, t3, t4, t5⟩ := hI.two h0
    obtain ⟨cs1, cs2⟩ := hI.cs t2
    have h8 := hI.h8 t3
    rw [t1] at p1 p2 p3 ht hN
    have hn0 : nmo s o = (s.at (o.pt 0)).ns 0 := by unfold nmo; rw [t1]
    rw [hn0] at hN hnl
    obtain ⟨n1, n2⟩ := hI.pn 0 (.inr (by omega)) (by omega) (by decide)
    rcases Nat.lt_or_ge o.cs.length o.h with hlh | hlh
    · have hzz := hroom h0 hlh
      obtain ⟨c, hc1, hcm⟩ := free_cell (T := T) (by have := hcw.cnt; omega)
      obtain ⟨hcT, hnc⟩ := hcw.free hc1
      have hV' := hcw.taken hc1
      have hok' : (s.taken c).ok := ⟨hok.n1, hok.hd, hok.sh, hok.gd, hok.zl, hok.nl, hok.nx, hok.l0, hok.one⟩
      refine (step_put (R := fun w' st => ∃ K' B' sv' cv', st = o.st ∧ Lm w' K' lb d g gt tc sv' (T.set c true) (N.set c 0) m (flip F c) (s.taken c) ∧ Ob w' B' ob lb cv' { o with cs := o.cs ++ [c] } ∧ Nx w w' K B K' B') c21 hob (fun u fu => (put_take (hL.keep fu (fun _ _ e => e) (fun e => e)) (ho.keep fu (fun _ _ e => e)) hKB cs1 rfl rfl rfl (by omega) (by have := hI.cl; omega) hlh (by omega) hc1 hcm).mono ?_)).mono ?_
      · rintro e w' ⟨rfl, K', B', sv', cv', q1, q2, q3⟩
        exact ⟨rfl, _, q2.om.cells.2.2.2.2.1, K', B', sv', cv', rfl, q1, q2, (Nx.same hKB (fu.mono (fun _ _ e => e.elim))).trans q3⟩
      · rintro e w' ⟨st, rfl, K', B', sv', cv', rfl, q1, q2, q3⟩
        exact ⟨_, { o with cs := o.cs ++ [c] }, K', B', cv', rfl, .take c h0 hlh hzz hnc, mk q1 hok' hV' (by simp) (by omega) (by omega), q2, q3⟩
    · have hle : o.cs.length = o.h := by omega
      by_cases hnn : (s.at (o.pt 0)).ns 0 = o.pn 0
      · have hbx : bh s (o.pt 0) (o.pn 0) 0 = s.nx (o.pt 0) 0 := by rw [← hnn]; exact bh_nx hok p1
        rw [hbx] at n2
        have hkb : Blw (s.at (o.pt 0)).k o.k := by
          rcases p3 with e | e
          · rw [e, hok.hd.1]
            have := good_ne t4
            rcases Blw.tri .empty o.k with q | q | q
            · exact q
            · exact absurd q.symm this
            · exact absurd q Blw.empty
          · exact e
        have hnx2 : s.nx (o.pt 0) 0 = 0 ∨ Blw o.k (s.at (s.nx (o.pt 0) 0)).k := n2.imp id (fun q => q.2)
        have hok' := hok.linked (r := o.r) (cs := o.cs) p1 t4 (by omega) hkb hnx2
        have hcw' := hcw.linked hok (k := o.k) (r := o.r) p1 cs1 cs2
        have hdec : true = decide (N.getD ((s.at (o.pt 0)).cs 0) 0 = ((o.pn 0 : Nat) : Int)) := by
          rw [hN, hnn]; simp
        refine (step_put (R := fun w' st => ∃ K' B' gt' tc' sv' cv' o', o' = ({ o with st := 1, tw := s.tw.length } : Opm).rose (s.linked (o.pt 0) o.k o.r o.cs) ∧ st = o'.st ∧ Lm w' K' lb d g gt' tc' sv' T (N.set ((s.at (o.pt 0)).cs 0) (s.tw.length : Int)) (m + 1) F (s.linked (o.pt 0) o.k o.r o.cs) ∧ Ob w' B' ob lb cv' o' ∧ Nx w w' K B K' B') c21 hob (fun u fu => (put_link (hL.keep fu (fun _ _ e => e) (fun e => e)) (ho.keep fu (fun _ _ e => e)) hKB cs1 rfl rfl rfl (by omega) (by have := hI.cl; omega) hle (by omega) (by omega) hnn n1 hlv p1 (by omega) ht hm hdec).mono ?_)).mono ?_
        · rintro e w' ⟨rfl, K', B', gt', tc', sv', cv', q1, q2, q3⟩
          exact ⟨rfl, _, q2.om.cells.2.2.2.2.1, K', B', gt', tc', sv', cv', _, rfl, rfl, q1, q2, (Nx.same hKB (fu.mono (fun _ _ e => e.elim))).trans q3⟩
        · rintro e w' ⟨st, rfl, K', B', gt', tc', sv', cv', o', rfl, rfl, q1, q2, q3⟩
          exact ⟨_, _, K', B', cv', rfl, .link h0 hle hnn, mk q1 hok' hcw' (by simp) (by omega) (by omega), q2, q3⟩
      · have hdec : false = decide (N.getD ((s.at (o.pt 0)).cs 0) 0 = ((o.pn 0 : Nat) : Int)) := by
          rw [hN]; simp; omega
        refine (step_put (R := fun w' st => ∃ cv' o', o' = ({ o with st := 1 } : Opm) ∧ st = o'.st ∧ Lm w' K lb d g gt tc sv T N (m + 1) F s ∧ Ob w' B ob lb cv' o' ∧ Fr (fun j => K j ∨ B j) w w') c21 hob (fun u fu => (put_late (hL.keep fu (fun _ _ e => e) (fun e => e)) (ho.keep fu (fun _ _ e => e)) hKB cs1 rfl rfl rfl (by omega) (by have := hI.cl; omega) hle (by omega) (by omega) p1 (by omega) ht hm hdec).mono ?_)).mono ?_
        · rintro e w' ⟨rfl, cv', q1, q2, q3⟩
          exact ⟨rfl, _, q2.om.cells.2.2.2.2.1, cv', _, rfl, rfl, q1, q2, (fu.mono (fun _ _ e => e.elim)).trans q3 (fun j e => .inl e)⟩
        · rintro e w' ⟨st, rfl, cv', o', rfl, rfl, q1, q2, q3⟩
          exact ⟨s, _, K, B, cv', rfl, .late h0 hle hnn, mk q1 hok hcw rfl (by omega) (by omega), q2, Nx.same hKB q3⟩
  · rw [h0] at c21
    -- it raises its tower
    have t0 := hI.thr h0
    obtain ⟨t1, t2, t3, t4, t5, t6⟩ := hI.tw t0
    obtain ⟨n1, n2⟩ := hI.pn o.lv (.inr (by omega)) (Nat.le_refl _) hlv
    have hij : o.pt o.lv ≠ o.tw := fun e => by rw [e] at p2; omega
    by_cases hnn : nmo s o = o.pn o.lv
    · have hbx : bh s (o.pt o.lv) (o.pn o.lv) o.lv = s.nx (o.pt o.lv) o.lv := by rw [← hnn]; exact bh_nx hok p1
      rw [hbx] at n2
      have hkb : Blw (s.at (o.pt o.lv)).k (s.at o.tw).k := by
        rw [t2]
        rcases p3 with e | e
        · rw [e, hok.hd.1]
          have := good_ne (hok.gd o.tw (by omega) t1)
          rw [t2] at this
          rcases Blw.tri .empty o.k with q | q | q
          · exact q
          · exact absurd q.symm this
          · exact absurd q Blw.empty
        · exact e
      have hnx2 : s.nx (o.pt o.lv) o.lv = 0 ∨ Blw (s.at o.tw).k (s.at (s.nx (o.pt o.lv) o.lv)).k := by rw [t2]; exact n2.imp id (fun q => q.2)
      have hok' := hok.raised p1 t1 t3.symm t4 p2 hkb hnx2
      have hcw' := hcw.raised (l := o.lv) p1 t1 (by omega) hij
      have hdec : true = decide (N.getD ((s.at (o.pt o.lv)).cs o.lv) 0 = ((o.pn o.lv : Nat) : Int)) := by
        rw [hN, hnn]; simp
      refine (step_raise (R := fun w' st => ∃ cv' o', o' = o.rose (s.raised (o.pt o.lv) o.tw o.lv) ∧ st = o'.st ∧ Lm w' K lb d g gt tc sv T (N.set ((s.at (o.pt o.lv)).cs o.lv) (o.tw : Int)) (m + 1) F (s.raised (o.pt o.lv) o.tw o.lv) ∧ Ob w' B ob lb cv' o' ∧ Fr (fun j => K j ∨ B j) w w') c21 hob (fun u fu => (raise_yes (hL.keep fu (fun _ _ e => e) (fun e => e)) (ho.keep fu (fun _ _ e => e)) hKB rfl hlv rfl rfl (by omega) p1 (by omega) ht hm t1 (by have := hI.cl; omega) hdec hij hnn n1).mono ?_)).mono ?_
      · rintro e w' ⟨rfl, cv', q1, q2, q3⟩
        exact ⟨rfl, _, q2.om.cells.2.2.2.2.1, cv', _, rfl, rfl, q1, q2, (fu.mono (fun _ _ e => e.elim)).trans q3 (fun j e => .inl e)⟩
      · rintro e w' ⟨st, rfl, cv', o', rfl, rfl, q1, q2, q3⟩
        exact ⟨_, _, K, B, cv', rfl, .raise h0 hnn, mk q1 hok' hcw' (by simp) (by omega) (by omega), q2, Nx.same hKB q3⟩
    · have hdec : false = decide (N.getD ((s.at (o.pt o.lv)).cs o.lv) 0 = ((o.pn o.lv : Nat) : Int)) := by
        rw [hN]; simp; omega
      have hok' := hok.fset (x := bh s (o.pt o.lv) (o.pn o.lv) o.lv) t1 (Nat.le_of_eq t3)
      have hcw' := hcw.fset (l := o.lv) (x := bh s (o.pt o.lv) (o.pn o.lv) o.lv) t1
      refine (step_raise (R := fun w' st => ∃ cv' o', o' = ({ o with st := 1 } : Opm) ∧ st = o'.st ∧ Lm w' K lb d g gt tc sv T N (m + 1) F (s.fset o.tw o.lv (bh s (o.pt o.lv) (o.pn o.lv) o.lv)) ∧ Ob w' B ob lb cv' o' ∧ Fr (fun j => K j ∨ B j) w w') c21 hob (fun u fu => (raise_no (hL.keep fu (fun _ _ e => e) (fun e => e)) (ho.keep fu (fun _ _ e => e)) hKB rfl hlv rfl rfl (by omega) p1 (by omega) ht hm t1 (by have := hI.cl; omega) hdec).mono ?_)).mono ?_
      · rintro e w' ⟨rfl, cv', q1, q2, q3⟩
        exact ⟨rfl, _, q2.om.cells.2.2.2.2.1, cv', _, rfl, rfl, q1, q2, (fu.mono (fun _ _ e => e.elim)).trans q3 (fun j e => .inl e)⟩
      · rintro e w' ⟨st, rfl, cv', o', rfl, rfl, q1, q2, q3⟩
        exact ⟨_, _, K, B, cv', rfl, .slip h0 hnn, mk q1 hok' hcw' rfl (by omega) (by omega), q2, Nx.same hKB q3⟩
end
end Go.Proofs.YtmcfonekajieeaaDoor
