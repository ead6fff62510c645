/-
  Sh1: A step, whatever the operation is at.
  Sh2: An operation alone, without memory.
  Sh3: A step of an operation alone, without memory.
  Sh4: A step of an operation alone, without memory: it puts its tower in, and raises it.
  Sh5: An operation alone; the law's done.
-/
import Derived.Test.YtopihgdbfhiejaaDoorSc3
import Derived.Test.YtopihgdbfhiejaaDoorSd1
import Derived.Test.YtopihgdbfhiejaaDoorSe1
import Derived.Test.YtopihgdbfhiejaaDoorSg1
set_option linter.unusedVariables false
set_option linter.unusedSimpArgs false
namespace Go.Proofs.YtopihgdbfhiejaaDoor

section
open Go.RowKit Go.Maps

/-- A list in memory, of an arena of z cells of its own; at most M steps were done there. -/
def LT (w : World) (K : Nat → Prop) (lb d z M : Nat) (s : Sl) : Prop :=
  ∃ g gt tc sv T N m F, Lm w K lb d g gt tc sv T N m F s ∧ s.ok ∧ s.cw T N ∧ N.length = z ∧ 0 ≤ m ∧ m ≤ (M : Int)

/-- What the cell of an operation's place has now; what stands behind it. -/
def nmo (s : Sl) (o : Opm) : Nat := (s.at (o.pt o.lv)).ns o.lv
def too (s : Sl) (o : Opm) : Nat := s.nx (o.pt o.lv) o.lv

/-- Where an operation is. -/
structure OI (s : Sl) (o : Opm) : Prop where
  lv : o.lv < 8
  pt : ∀ l, o.lv ≤ l → l < 8 → o.pt l < s.tw.length ∧ l < (s.at (o.pt l)).lk ∧ (o.pt l = 0 ∨ Blw (s.at (o.pt l)).k o.k)
  pn : ∀ l, (o.lv < l ∨ o.st ≠ 1) → o.lv ≤ l → l < 8 → o.pn l < s.tw.length ∧ (bh s (o.pt l) (o.pn l) l = 0 ∨ (bh s (o.pt l) (o.pn l) l < s.tw.length ∧ Blw o.k (s.at (bh s (o.pt l) (o.pn l) l)).k))
  two : o.st = 2 → o.lv = 0 ∧ o.tw = 0 ∧ o.kind = 2 ∧ good o.k = true ∧ o.cs.length ≤ o.h
  thr : o.st = 3 → o.tw ≠ 0
  tw : o.tw ≠ 0 → o.tw < s.tw.length ∧ (s.at o.tw).k = o.k ∧ (s.at o.tw).lk = o.lv ∧ o.lv < (s.at o.tw).h ∧ (s.at o.tw).h = o.h ∧ 1 ≤ o.lv
  cs : o.tw = 0 → (∀ c ∈ o.cs, c ∈ s.sp) ∧ o.cs.Nodup
  h8 : o.kind = 2 → 1 ≤ o.h ∧ o.h ≤ 8
  cl : o.cs.length ≤ 8

/-- A step. -/
inductive Stp (z : Nat) (s : Sl) (o : Opm) : Sl → Opm → Prop
  | leave (h0 : o.st = 1) (ht : too s o = 0 ∨ Blw o.k (s.at (too s o)).k) : Stp z s o s ((o.seen (nmo s o)).left s (too s o))
  | found (h0 : o.st = 1) (ht : too s o ≠ 0) (hk : o.k = (s.at (too s o)).k) : Stp z s o s ((o.seen (nmo s o)).ans s (too s o) true)
  | pass (h0 : o.st = 1) (ht : too s o ≠ 0) (hk : Blw (s.at (too s o)).k o.k) : Stp z s o s { o.seen (nmo s o) with pt := upd o.pt o.lv (too s o) }
  | take (c : Nat) (h0 : o.st = 2) (hl : o.cs.length < o.h) (hz : s.cells.length < z) (hc : c ∉ s.cells) : Stp z s o (s.taken c) { o with cs := o.cs ++ [c] }
  | link (h0 : o.st = 2) (hl : o.cs.length = o.h) (hn : (s.at (o.pt 0)).ns 0 = o.pn 0) : Stp z s o (s.linked (o.pt 0) o.k o.r o.cs) (({ o with st := 1, tw := s.tw.length } : Opm).rose (s.linked (o.pt 0) o.k o.r o.cs))
  | late (h0 : o.st = 2) (hl : o.cs.length = o.h) (hn : (s.at (o.pt 0)).ns 0 ≠ o.pn 0) : Stp z s o s { o with st := 1 }
  | raise (h0 : o.st = 3) (hn : nmo s o = o.pn o.lv) : Stp z s o (s.raised (o.pt o.lv) o.tw o.lv) (o.rose (s.raised (o.pt o.lv) o.tw o.lv))
  | slip (h0 : o.st = 3) (hn : nmo s o ≠ o.pn o.lv) : Stp z s o (s.fset o.tw o.lv (bh s (o.pt o.lv) (o.pn o.lv) o.lv)) { o with st := 1 }

section
variable {w : World} {K B : Nat → Prop} {lb d z M : Nat} {s : Sl} {ob : Nat} {cv : Value} {o : Opm}

theorem good_le {s : Sl} (h : s.ok) {i : Nat} (hi : i < s.tw.length) : (s.at i).k.size ≤ 16 := by
  rcases Nat.eq_zero_or_pos i with e | e
  · rw [e, h.hd.1]; simp
  · exact (good_size (h.gd i e hi)).2
theorem tw_le {s : Sl} {T : List Bool} {N : List Int} (ho : s.ok) (h : s.cw T N) : s.tw.length ≤ s.cells.length := by
  have key : ∀ l : List Tw, (∀ t ∈ l, 1 ≤ t.h) → l.length ≤ ((l.map Tw.cells).flatten).length := by
    intro l
    induction l with
    | nil => intro _; simp
    | cons t ts ih =>
      intro hh
      have h1 := hh t (by simp)
      have h2 := ih (fun x hx => hh x (by simp [hx]))
      simp [Tw.cells] at h2 ⊢
      omega
  have h1 : ∀ t ∈ s.tw, 1 ≤ t.h := fun t ht => by
    obtain ⟨i, hi, rfl⟩ := List.getElem_of_mem ht
    have ea : s.at i = s.tw[i] := by simp [Sl.at, List.getD, List.getElem?_eq_getElem hi]
    have := ho.sh i hi
    rw [ea] at this
    omega
  have := key s.tw h1
  unfold Sl.cells Sl.own
  rw [List.length_append]
  omega
theorem bh_nx {s : Sl} (h : s.ok) {i l : Nat} (hi : i < s.tw.length) : bh s i ((s.at i).ns l) l = s.nx i l := by
  unfold bh Sl.nx
  have := h.nl i hi l
  by_cases q : (s.at i).ns l = 0
  · rw [if_pos q, if_pos q]
  · rw [if_neg q, if_neg q, if_neg (by omega)]

set_option maxHeartbeats 2000000 in
theorem LT.step (h : LT w K lb d z M s) (ho : Ob w B ob lb cv o) (hKB : ∀ j, K j → ¬ B j) (hI : OI s o) (hst : o.st = 1 ∨ o.st = 2 ∨ o.st = 3) (hroom : o.st = 2 → o.cs.length < o.h → s.cells.length < z) (hM : M < 2305843009213693952) :
    Calls Tryd.prog 20 #[.pointer (some ⟨ob, 0, none⟩)] w fun e w' => ∃ s' o' K' B' cv', e = .returned (.bool (decide (o'.st = 5))) ∧ Stp z s o s' o' ∧ LT w' K' lb d z (M + 1) s' ∧ Ob w' B' ob lb cv' o' ∧ Nx w w' K B K' B' := by
  obtain ⟨g, gt, tc, sv, T, N, m, F, hL, hok, hcw, hz, hm0, hmM⟩ := h
  have hm : 0 ≤ m ∧ m < 4611686018427387904 := by omega
  have hNl : N.length ≤ 65536 := hL.aw.one.2
  have hTl : T.length = N.length := hL.aw.len
  have hcl := hcw.le
  have htl := tw_le hok hcw
  have hspl : s.sp.length ≤ s.cells.length := by unfold Sl.cells; rw [List.length_append]; omega
  have hlv := hI.lv
  obtain ⟨p1, p2, p3⟩ := hI.pt o.lv (Nat.le_refl _) hlv
  have hsh := hok.sh _ p1
  have hcell : (s.at (o.pt o.lv)).cs o.lv ∈ s.cells := own_cells (cs_own p1 (by omega))
  have ht := hcw.tk _ hcell
  have hN : N.getD ((s.at (o.pt o.lv)).cs o.lv) 0 = ((nmo s o : Nat) : Int) := hcw.num _ p1 _ (by omega)
  have hnl : nmo s o < s.tw.length := hok.nl _ p1 _
  have hob := ho.om.lt
  have htol : too s o < s.tw.length := by
    by_cases q : too s o = 0
    · rw [q]; exact hok.n1
    · exact (hok.nx _ p1 _ p2 q).1
  have hbh : too s o = bh s (o.pt o.lv) (nmo s o) o.lv := (bh_nx hok p1).symm
  have c21 := ho.om.cells.2.2.2.2.1
  have mk : ∀ {w' : World} {N' : List Int} {m' : Int} {K' : Nat → Prop} {gt' tc' : Nat} {sv' : Value} {T' : List Bool} {F' : List Nat} {s' : Sl}, Lm w' K' lb d g gt' tc' sv' T' N' m' F' s' → s'.ok → s'.cw T' N' → N'.length = N.length → 0 ≤ m' → m' ≤ m + 1 → LT w' K' lb d z (M + 1) s' := fun a1 a2 a3 a4 a5 a6 => ⟨_, _, _, _, _, _, _, _, a1, a2, a3, by omega, a5, by omega⟩
  rcases hst with h0 | h0 | h0
  · rw [h0] at c21
    -- it looks
    by_cases hto : too s o = 0
    · refine (step_look (R := fun w' st => ∃ cv' o', o' = (o.seen (nmo s o)).left s (too s o) ∧ st = o'.st ∧ Lm w' K lb d g gt tc sv T N (m + 1) F s ∧ Ob w' B ob lb cv' o' ∧ Fr (fun j => K j ∨ B j) w w') c21 hob (fun u fu => (look_end (hL.keep fu (fun _ _ e => e) (fun e => e)) (ho.keep fu (fun _ _ e => e)) hKB rfl hlv rfl p1 ht hN (by omega) hbh htol hm (by have := hI.cl; omega) hto).mono ?_)).mono ?_
      · rintro e w' ⟨rfl, cv', q1, q2, q3⟩
        exact ⟨rfl, _, q2.om.cells.2.2.2.2.1, cv', _, rfl, rfl, q1, q2, (fu.mono (fun _ _ e => e.elim)).trans q3 (fun j e => .inl e)⟩
      · rintro e w' ⟨st, rfl, cv', o', rfl, rfl, q1, q2, q3⟩
        exact ⟨s, _, K, B, cv', rfl, .leave h0 (.inl hto), mk q1 hok hcw rfl (by omega) (by omega), q2, Nx.same hKB q3⟩
    · have hto1 : 1 ≤ too s o := by omega
      have hgk := good_le hok htol
      by_cases hlt : Blw o.k (s.at (too s o)).k
      · refine (step_look (R := fun w' st => ∃ cv' o', o' = (o.seen (nmo s o)).left s (too s o) ∧ st = o'.st ∧ Lm w' K lb d g gt tc sv T N (m + 1) F s ∧ Ob w' B ob lb cv' o' ∧ Fr (fun j => K j ∨ B j) w w') c21 hob (fun u fu => (look_leave (hL.keep fu (fun _ _ e => e) (fun e => e)) (ho.keep fu (fun _ _ e => e)) hKB rfl hlv rfl p1 ht hN (by omega) hbh htol hm (by have := hI.cl; omega) hto ((KL_iff (.inr hgk)).2 hlt)).mono ?_)).mono ?_
        · rintro e w' ⟨rfl, cv', q1, q2, q3⟩
          exact ⟨rfl, _, q2.om.cells.2.2.2.2.1, cv', _, rfl, rfl, q1, q2, (fu.mono (fun _ _ e => e.elim)).trans q3 (fun j e => .inl e)⟩
        · rintro e w' ⟨st, rfl, cv', o', rfl, rfl, q1, q2, q3⟩
          exact ⟨s, _, K, B, cv', rfl, .leave h0 (.inr hlt), mk q1 hok hcw rfl (by omega) (by omega), q2, Nx.same hKB q3⟩
      · have hnlt : ¬ KL o.k < KL (s.at (too s o)).k := fun q => hlt ((KL_iff (.inr hgk)).1 q)
        by_cases heq : o.k = (s.at (too s o)).k
        · refine (step_look (R := fun w' st => ∃ cv' o', o' = (o.seen (nmo s o)).ans s (too s o) true ∧ st = o'.st ∧ Lm w' K lb d g gt tc sv T N (m + 1) F s ∧ Ob w' B ob lb cv' o' ∧ Fr (fun j => K j ∨ B j) w w') c21 hob (fun u fu => (look_found (hL.keep fu (fun _ _ e => e) (fun e => e)) (ho.keep fu (fun _ _ e => e)) hKB rfl hlv rfl p1 ht hN (by omega) hbh htol hm (by have := hI.cl; omega) hto hnlt ((KL_eq (.inr hgk)).2 heq)).mono ?_)).mono ?_
          · rintro e w' ⟨rfl, cv', q1, q2, q3⟩
            exact ⟨rfl, _, q2.om.cells.2.2.2.2.1, cv', _, rfl, rfl, q1, q2, (fu.mono (fun _ _ e => e.elim)).trans q3 (fun j e => .inl e)⟩
          · rintro e w' ⟨st, rfl, cv', o', rfl, rfl, q1, q2, q3⟩
            exact ⟨s, _, K, B, cv', rfl, .found h0 hto heq, mk q1 hok hcw rfl (by omega) (by omega), q2, Nx.same hKB q3⟩
        · have hgt : Blw (s.at (too s o)).k o.k := by
            rcases Blw.tri o.k (s.at (too s o)).k with q | q | q
            · exact absurd q hlt
            · exact absurd q heq
            · exact q
          refine (step_look (R := fun w' st => ∃ cv' o', o' = { o.seen (nmo s o) with pt := upd o.pt o.lv (too s o) } ∧ st = o'.st ∧ Lm w' K lb d g gt tc sv T N (m + 1) F s ∧ Ob w' B ob lb cv' o' ∧ Fr (fun j => K j ∨ B j) w w') c21 hob (fun u fu => (look_pass (hL.keep fu (fun _ _ e => e) (fun e => e)) (ho.keep fu (fun _ _ e => e)) hKB rfl hlv rfl p1 ht hN (by omega) hbh htol hm (by have := hI.cl; omega) hto hnlt (fun q => heq ((KL_eq (.inr hgk)).1 q))).mono ?_)).mono ?_
          · rintro e w' ⟨rfl, cv', q1, q2, q3⟩
            exact ⟨rfl, _, q2.om.cells.2.2.2.2.1, cv', _, rfl, rfl, q1, q2, (fu.mono (fun _ _ e => e.elim)).trans q3 (fun j e => .inl e)⟩
          · rintro e w' ⟨st, rfl, cv', o', rfl, rfl, q1, q2, q3⟩
            exact ⟨s, _, K, B, cv', rfl, .pass h0 hto hgt, mk q1 hok hcw rfl (by omega) (by omega), q2, Nx.same hKB q3⟩
  · rw [h0] at c21
    -- it puts
    obtain ⟨t1, t2, t3, t4, t5⟩ := hI.two h0
    obtain ⟨cs1, cs2⟩ := hI.cs t2
    have h8 := hI.h8 t3
    rw [t1] at p1 p2 p3 ht hN
    have hn0 : nmo s o = (s.at (o.pt 0)).ns 0 := by unfold nmo; rw [t1]
    rw [hn0] at hN hnl
    obtain ⟨n1, n2⟩ := hI.pn 0 (.inr (by omega)) (by omega) (by decide)
    rcases Nat.lt_or_ge o.cs.length o.h with hlh | hlh
    · have hzz := hroom h0 hlh
      obtain ⟨c, hc1, hcm⟩ := free_cell (T := T) (by have := hcw.cnt; omega)
      obtain ⟨hcT, hnc⟩ := hcw.free hc1
      have hV' := hcw.taken hc1
      have hok' : (s.taken c).ok := ⟨hok.n1, hok.hd, hok.sh, hok.gd, hok.zl, hok.nl, hok.nx, hok.l0, hok.one⟩
      refine (step_put (R := fun w' st => ∃ K' B' sv' cv', st = o.st ∧ Lm w' K' lb d g gt tc sv' (T.set c true) (N.set c 0) m (flip F c) (s.taken c) ∧ Ob w' B' ob lb cv' { o with cs := o.cs ++ [c] } ∧ Nx w w' K B K' B') c21 hob (fun u fu => (put_take (hL.keep fu (fun _ _ e => e) (fun e => e)) (ho.keep fu (fun _ _ e => e)) hKB cs1 rfl rfl rfl (by omega) (by have := hI.cl; omega) hlh (by omega) hc1 hcm).mono ?_)).mono ?_
      · rintro e w' ⟨rfl, K', B', sv', cv', q1, q2, q3⟩
        exact ⟨rfl, _, q2.om.cells.2.2.2.2.1, K', B', sv', cv', rfl, q1, q2, (Nx.same hKB (fu.mono (fun _ _ e => e.elim))).trans q3⟩
      · rintro e w' ⟨st, rfl, K', B', sv', cv', rfl, q1, q2, q3⟩
        exact ⟨_, { o with cs := o.cs ++ [c] }, K', B', cv', rfl, .take c h0 hlh hzz hnc, mk q1 hok' hV' (by simp) (by omega) (by omega), q2, q3⟩
    · have hle : o.cs.length = o.h := by omega
      by_cases hnn : (s.at (o.pt 0)).ns 0 = o.pn 0
      · have hbx : bh s (o.pt 0) (o.pn 0) 0 = s.nx (o.pt 0) 0 := by rw [← hnn]; exact bh_nx hok p1
        rw [hbx] at n2
        have hkb : Blw (s.at (o.pt 0)).k o.k := by
          rcases p3 with e | e
          · rw [e, hok.hd.1]
            have := good_ne t4
            rcases Blw.tri .empty o.k with q | q | q
            · exact q
            · exact absurd q.symm this
            · exact absurd q Blw.empty
          · exact e
        have hnx2 : s.nx (o.pt 0) 0 = 0 ∨ Blw o.k (s.at (s.nx (o.pt 0) 0)).k := n2.imp id (fun q => q.2)
        have hok' := hok.linked (r := o.r) (cs := o.cs) p1 t4 (by omega) hkb hnx2
        have hcw' := hcw.linked hok (k := o.k) (r := o.r) p1 cs1 cs2
        have hdec : true = decide (N.getD ((s.at (o.pt 0)).cs 0) 0 = ((o.pn 0 : Nat) : Int)) := by
          rw [hN, hnn]; simp
        refine (step_put (R := fun w' st => ∃ K' B' gt' tc' sv' cv' o', o' = ({ o with st := 1, tw := s.tw.length } : Opm).rose (s.linked (o.pt 0) o.k o.r o.cs) ∧ st = o'.st ∧ Lm w' K' lb d g gt' tc' sv' T (N.set ((s.at (o.pt 0)).cs 0) (s.tw.length : Int)) (m + 1) F (s.linked (o.pt 0) o.k o.r o.cs) ∧ Ob w' B' ob lb cv' o' ∧ Nx w w' K B K' B') c21 hob (fun u fu => (put_link (hL.keep fu (fun _ _ e => e) (fun e => e)) (ho.keep fu (fun _ _ e => e)) hKB cs1 rfl rfl rfl (by omega) (by have := hI.cl; omega) hle (by omega) (by omega) hnn n1 hlv p1 (by omega) ht hm hdec).mono ?_)).mono ?_
        · rintro e w' ⟨rfl, K', B', gt', tc', sv', cv', q1, q2, q3⟩
          exact ⟨rfl, _, q2.om.cells.2.2.2.2.1, K', B', gt', tc', sv', cv', _, rfl, rfl, q1, q2, (Nx.same hKB (fu.mono (fun _ _ e => e.elim))).trans q3⟩
        · rintro e w' ⟨st, rfl, K', B', gt', tc', sv', cv', o', rfl, rfl, q1, q2, q3⟩
          exact ⟨_, _, K', B', cv', rfl, .link h0 hle hnn, mk q1 hok' hcw' (by simp) (by omega) (by omega), q2, q3⟩
      · have hdec : false = decide (N.getD ((s.at (o.pt 0)).cs 0) 0 = ((o.pn 0 : Nat) : Int)) := by
          rw [hN]; simp; omega
        refine (step_put (R := fun w' st => ∃ cv' o', o' = ({ o with st := 1 } : Opm) ∧ st = o'.st ∧ Lm w' K lb d g gt tc sv T N (m + 1) F s ∧ Ob w' B ob lb cv' o' ∧ Fr (fun j => K j ∨ B j) w w') c21 hob (fun u fu => (put_late (hL.keep fu (fun _ _ e => e) (fun e => e)) (ho.keep fu (fun _ _ e => e)) hKB cs1 rfl rfl rfl (by omega) (by have := hI.cl; omega) hle (by omega) (by omega) p1 (by omega) ht hm hdec).mono ?_)).mono ?_
        · rintro e w' ⟨rfl, cv', q1, q2, q3⟩
          exact ⟨rfl, _, q2.om.cells.2.2.2.2.1, cv', _, rfl, rfl, q1, q2, (fu.mono (fun _ _ e => e.elim)).trans q3 (fun j e => .inl e)⟩
        · rintro e w' ⟨st, rfl, cv', o', rfl, rfl, q1, q2, q3⟩
          exact ⟨s, _, K, B, cv', rfl, .late h0 hle hnn, mk q1 hok hcw rfl (by omega) (by omega), q2, Nx.same hKB q3⟩
  · rw [h0] at c21
    -- it raises its tower
    have t0 := hI.thr h0
    obtain ⟨t1, t2, t3, t4, t5, t6⟩ := hI.tw t0
    obtain ⟨n1, n2⟩ := hI.pn o.lv (.inr (by omega)) (Nat.le_refl _) hlv
    have hij : o.pt o.lv ≠ o.tw := fun e => by rw [e] at p2; omega
    by_cases hnn : nmo s o = o.pn o.lv
    · have hbx : bh s (o.pt o.lv) (o.pn o.lv) o.lv = s.nx (o.pt o.lv) o.lv := by rw [← hnn]; exact bh_nx hok p1
      rw [hbx] at n2
      have hkb : Blw (s.at (o.pt o.lv)).k (s.at o.tw).k := by
        rw [t2]
        rcases p3 with e | e
        · rw [e, hok.hd.1]
          have := good_ne (hok.gd o.tw (by omega) t1)
          rw [t2] at this
          rcases Blw.tri .empty o.k with q | q | q
          · exact q
          · exact absurd q.symm this
          · exact absurd q Blw.empty
        · exact e
      have hnx2 : s.nx (o.pt o.lv) o.lv = 0 ∨ Blw (s.at o.tw).k (s.at (s.nx (o.pt o.lv) o.lv)).k := by rw [t2]; exact n2.imp id (fun q => q.2)
      have hok' := hok.raised p1 t1 t3.symm t4 p2 hkb hnx2
      have hcw' := hcw.raised (l := o.lv) p1 t1 (by omega) hij
      have hdec : true = decide (N.getD ((s.at (o.pt o.lv)).cs o.lv) 0 = ((o.pn o.lv : Nat) : Int)) := by
        rw [hN, hnn]; simp
      refine (step_raise (R := fun w' st => ∃ cv' o', o' = o.rose (s.raised (o.pt o.lv) o.tw o.lv) ∧ st = o'.st ∧ Lm w' K lb d g gt tc sv T (N.set ((s.at (o.pt o.lv)).cs o.lv) (o.tw : Int)) (m + 1) F (s.raised (o.pt o.lv) o.tw o.lv) ∧ Ob w' B ob lb cv' o' ∧ Fr (fun j => K j ∨ B j) w w') c21 hob (fun u fu => (raise_yes (hL.keep fu (fun _ _ e => e) (fun e => e)) (ho.keep fu (fun _ _ e => e)) hKB rfl hlv rfl rfl (by omega) p1 (by omega) ht hm t1 (by have := hI.cl; omega) hdec hij hnn n1).mono ?_)).mono ?_
      · rintro e w' ⟨rfl, cv', q1, q2, q3⟩
        exact ⟨rfl, _, q2.om.cells.2.2.2.2.1, cv', _, rfl, rfl, q1, q2, (fu.mono (fun _ _ e => e.elim)).trans q3 (fun j e => .inl e)⟩
      · rintro e w' ⟨st, rfl, cv', o', rfl, rfl, q1, q2, q3⟩
        exact ⟨_, _, K, B, cv', rfl, .raise h0 hnn, mk q1 hok' hcw' (by simp) (by omega) (by omega), q2, Nx.same hKB q3⟩
    · have hdec : false = decide (N.getD ((s.at (o.pt o.lv)).cs o.lv) 0 = ((o.pn o.lv : Nat) : Int)) := by
        rw [hN]; simp; omega
      have hok' := hok.fset (x := bh s (o.pt o.lv) (o.pn o.lv) o.lv) t1 (Nat.le_of_eq t3)
      have hcw' := hcw.fset (l := o.lv) (x := bh s (o.pt o.lv) (o.pn o.lv) o.lv) t1
      refine (step_raise (R := fun w' st => ∃ cv' o', o' = ({ o with st := 1 } : Opm) ∧ st = o'.st ∧ Lm w' K lb d g gt tc sv T N (m + 1) F (s.fset o.tw o.lv (bh s (o.pt o.lv) (o.pn o.lv) o.lv)) ∧ Ob w' B ob lb cv' o' ∧ Fr (fun j => K j ∨ B j) w w') c21 hob (fun u fu => (raise_no (hL.keep fu (fun _ _ e => e) (fun e => e)) (ho.keep fu (fun _ _ e => e)) hKB rfl hlv rfl rfl (by omega) p1 (by omega) ht hm t1 (by have := hI.cl; omega) hdec).mono ?_)).mono ?_
      · rintro e w' ⟨rfl, cv', q1, q2, q3⟩
        exact ⟨rfl, _, q2.om.cells.2.2.2.2.1, cv', _, rfl, rfl, q1, q2, (fu.mono (fun _ _ e => e.elim)).trans q3 (fun j e => .inl e)⟩
      · rintro e w' ⟨st, rfl, cv', o', rfl, rfl, q1, q2, q3⟩
        exact ⟨_, _, K, B, cv', rfl, .slip h0 hnn, mk q1 hok' hcw' rfl (by omega) (by omega), q2, Nx.same hKB q3⟩
end
end

section
open Go.RowKit Go.Maps

/-- What is in a list: its towers' keys, what they name, their heights. -/
def ks (s : Sl) : List (ByteArray × Int × Nat) := s.tw.map fun t => (t.k, t.r, t.h)
theorem ks_set {l : List Tw} {i : Nat} {t : Tw} (h : (t.k, t.r, t.h) = ((l.getD i t0).k, (l.getD i t0).r, (l.getD i t0).h)) : (l.set i t).map (fun t => (t.k, t.r, t.h)) = l.map fun t => (t.k, t.r, t.h) := by
  apply List.ext_getElem?
  intro j
  rw [List.getElem?_map, List.getElem?_map, List.getElem?_set]
  by_cases e : i = j
  · rw [if_pos e]
    by_cases hi : i < l.length
    · rw [if_pos hi, ← e, List.getElem?_eq_getElem hi]
      simp only [Option.map_some]
      rw [h]
      simp [List.getD, List.getElem?_eq_getElem hi]
    · rw [if_neg hi, ← e, List.getElem?_eq_none (by omega)]
  · rw [if_neg e]
theorem ks_linked {s : Sl} {i : Nat} {k : ByteArray} {r : Int} {cs : List Nat} : ks (s.linked i k r cs) = ks s ++ [(k, r, cs.length)] := by
  have e1 : (s.tw.set i { s.at i with ns := upd (s.at i).ns 0 s.tw.length }).map (fun t => (t.k, t.r, t.h)) = s.tw.map fun t => (t.k, t.r, t.h) := ks_set rfl
  unfold ks Sl.linked
  rw [List.map_append, e1]
  rfl
theorem ks_raised {s : Sl} {i j l : Nat} : ks (s.raised i j l) = ks s := by
  have e1 : (s.tw.set i { s.at i with ns := upd (s.at i).ns l j }).map (fun t => (t.k, t.r, t.h)) = s.tw.map fun t => (t.k, t.r, t.h) := ks_set rfl
  unfold ks Sl.raised
  show ((s.tw.set i { s.at i with ns := upd (s.at i).ns l j }).set j { s.at j with fs := upd (s.at j).fs l (s.nx i l), lk := l + 1 }).map (fun t => (t.k, t.r, t.h)) = _
  rw [ks_set, e1]
  rw [getD_set]
  split
  · rename_i q
    show ((s.at j).k, (s.at j).r, (s.at j).h) = ((s.at i).k, (s.at i).r, (s.at i).h)
    rw [q.1]
  · rfl
theorem ks_at {s s' : Sl} (h : ks s' = ks s) (i : Nat) : (s'.at i).k = (s.at i).k ∧ (s'.at i).r = (s.at i).r ∧ (s'.at i).h = (s.at i).h := by
  have h1 := congrArg (fun l : List (ByteArray × Int × Nat) => l[i]?) h
  unfold ks at h1
  simp only [List.getElem?_map] at h1
  unfold Sl.at List.getD
  cases e1 : s'.tw[i]? with
  | none =>
    cases e2 : s.tw[i]? with
    | none => exact ⟨rfl, rfl, rfl⟩
    | some t => rw [e1, e2] at h1; simp at h1
  | some t' =>
    cases e2 : s.tw[i]? with
    | none => rw [e1, e2] at h1; simp at h1
    | some t =>
      rw [e1, e2] at h1
      simp at h1
      exact h1
theorem ks_len {s s' : Sl} (h : ks s' = ks s) : s'.tw.length = s.tw.length := by
  have := congrArg List.length h
  simpa [ks] using this

/-- How many keys lie between a place and a key. -/
def btw (s : Sl) (i : Nat) (k : ByteArray) (j : Nat) : Bool := decide (j ≠ 0) && (decide (i = 0) || decide (bl (s.at i).k < bl (s.at j).k)) && decide (bl (s.at j).k < bl k)
def cnt (s : Sl) (i : Nat) (k : ByteArray) : Nat := ((List.range s.tw.length).filter (btw s i k)).length
theorem filter_less {p q : Nat → Bool} : ∀ (l : List Nat), (∀ x ∈ l, q x = true → p x = true) → (∃ x ∈ l, p x = true ∧ q x = false) → (l.filter q).length < (l.filter p).length
  | [], _, h => by obtain ⟨x, hx, _⟩ := h; cases hx
  | y :: ys, h1, h2 => by
    have hle : ∀ l : List Nat, (∀ x ∈ l, q x = true → p x = true) → (l.filter q).length ≤ (l.filter p).length := by
      intro l
      induction l with
      | nil => intro _; simp
      | cons z zs ih =>
        intro h
        have := ih (fun x hx => h x (by simp [hx]))
        cases hq : q z with
        | true => simp [List.filter_cons, hq, h z (by simp) hq]; exact this
        | false => cases hp : p z <;> simp [List.filter_cons, hq, hp] <;> omega
    obtain ⟨x, hx, h3, h4⟩ := h2
    rcases List.mem_cons.1 hx with e | e
    · subst e
      have := hle ys (fun x hx => h1 x (by simp [hx]))
      simp [List.filter_cons, h3, h4]; omega
    · have := filter_less ys (fun x hx => h1 x (by simp [hx])) ⟨x, e, h3, h4⟩
      cases hq : q y with
      | true => simp [List.filter_cons, hq, h1 y (by simp) hq]; exact this
      | false => cases hp : p y <;> simp [List.filter_cons, hq, hp] <;> omega
theorem cnt_pass {s : Sl} {i j : Nat} {k : ByteArray} (h0 : j ≠ 0) (hj : j < s.tw.length) (h1 : i = 0 ∨ Blw (s.at i).k (s.at j).k) (h2 : Blw (s.at j).k k) : cnt s j k < cnt s i k := by
  refine filter_less _ (fun x _ hx => ?_) ⟨j, List.mem_range.2 hj, ?_, ?_⟩
  · unfold btw at hx ⊢
    simp only [Bool.and_eq_true, Bool.or_eq_true, decide_eq_true_eq] at hx ⊢
    refine ⟨⟨hx.1.1, ?_⟩, hx.2⟩
    rcases hx.1.2 with q | q
    · exact absurd q h0
    · exact h1.imp id (fun q2 => List.lt_trans q2 q)
  · unfold btw
    simp only [Bool.and_eq_true, Bool.or_eq_true, decide_eq_true_eq]
    exact ⟨⟨h0, h1⟩, h2⟩
  · unfold btw
    have : ¬ bl (s.at j).k < bl (s.at j).k := List.lt_irrefl _
    simp [h0, this]
theorem cnt_le (s : Sl) (i : Nat) (k : ByteArray) : cnt s i k ≤ s.tw.length - 1 := by
  unfold cnt
  rcases Nat.eq_zero_or_pos s.tw.length with e | e
  · rw [e]; simp
  · have h1 : (List.range s.tw.length).filter (btw s i k) = ((List.range s.tw.length).filter (fun j => decide (j ≠ 0))).filter (btw s i k) := by
      rw [List.filter_filter]
      congr 1
      funext j
      unfold btw
      cases decide (j ≠ 0) <;> simp
    rw [h1]
    refine Nat.le_trans (List.length_filter_le _ _) ?_
    obtain ⟨n, hn⟩ : ∃ n, s.tw.length = n + 1 := ⟨s.tw.length - 1, by omega⟩
    rw [hn, List.range_succ_eq_map]
    simp only [List.filter_cons]
    refine Nat.le_trans (show _ ≤ ((List.range n).map Nat.succ).length from ?_) (by simp)
    have : decide ((0 : Nat) ≠ 0) = false := by decide
    simp only [this]
    exact List.length_filter_le _ _

/-- What an operation has come to, alone. -/
def Fin (s : Sl) (k : ByteArray) (kind : Nat) (r : Int) (h : Nat) (s' : Sl) (o : Opm) : Prop :=
  o.st = 5 ∧ o.code = 0 ∧ s'.sp = [] ∧
  ((∃ j, 1 ≤ j ∧ j < s.tw.length ∧ o.fk = (s.at j).k ∧ o.nm = (s.at j).r ∧ o.had = true ∧ ks s' = ks s ∧ ((s.at j).k = k ∨ (kind = 1 ∧ Blw k (s.at j).k ∧ ∀ x, 1 ≤ x → x < s.tw.length → Blw (s.at x).k k ∨ ¬ Blw (s.at x).k (s.at j).k))) ∨
   (kind ≠ 2 ∧ o.fk = .empty ∧ o.nm = 0 ∧ o.had = false ∧ ks s' = ks s ∧ ∀ x, 1 ≤ x → x < s.tw.length → (kind = 1 → Blw (s.at x).k k) ∧ (s.at x).k ≠ k) ∨
   (kind = 2 ∧ o.fk = k ∧ o.nm = r ∧ o.had = false ∧ ks s' = ks s ++ [(k, r, h)] ∧ ∀ x, 1 ≤ x → x < s.tw.length → (s.at x).k ≠ k))

/-- An operation alone, with at most p steps to come. -/
structure Alo (s : Sl) (k : ByteArray) (kind : Nat) (r : Int) (h : Nat) (p : Nat) (s' : Sl) (o : Opm) : Prop where
  oi : OI s' o
  ek : o.k = k
  ekind : o.kind = kind
  er : o.r = r
  eh : kind = 2 → o.h = h ∧ 1 ≤ h ∧ h ≤ 8
  full : o.full = false
  code : o.code = 0
  gd : kind = 2 → good k = true
  kd : o.tw ≠ 0 → kind = 2
  k2 : kind ≠ 0 → kind ≠ 1 → kind = 2
  ex : ∀ l, (o.lv < l ∨ o.st ≠ 1) → o.lv ≤ l → l < 8 → o.pn l = (s'.at (o.pt l)).ns l
  ph : (o.st = 1 ∧ o.tw = 0 ∧ o.cs = [] ∧ s' = s ∧ cnt s (o.pt o.lv) k + o.lv + 1 + (if kind = 2 then 2 * h else 0) ≤ p) ∨
    (o.st = 2 ∧ ks s' = ks s ∧ s'.sp = o.cs ∧ (h - o.cs.length) + h ≤ p ∧ ∀ x, 1 ≤ x → x < s.tw.length → (s.at x).k ≠ k) ∨
    (o.st = 3 ∧ ks s' = ks s ++ [(k, r, h)] ∧ s'.sp = [] ∧ o.tw = s.tw.length ∧ h - o.lv ≤ p ∧ ∀ x, 1 ≤ x → x < s.tw.length → (s.at x).k ≠ k)

section
variable {s s' s'' : Sl} {k : ByteArray} {kind : Nat} {r : Int} {h p z : Nat} {o o' : Opm}
theorem Alo.pos (a : Alo s k kind r h p s' o) (hst : o.st ≠ 5) : 1 ≤ p := by
  rcases a.ph with q | q | q
  · omega
  · have := (a.oi.two q.1)
    have := a.eh (by rw [← a.ekind]; exact this.2.2.1)
    omega
  · obtain ⟨t1, t2, t3, t4, t5, t6⟩ := a.oi.tw (a.oi.thr q.1)
    have hk : kind = 2 ∨ kind ≠ 2 := by omega
    rcases hk with hk | hk
    · have := a.eh hk
      omega
    · exact absurd (a.kd (a.oi.thr q.1)) hk
theorem ans_nil (o : Opm) (s : Sl) (i : Nat) (had : Bool) (h : ∀ c ∈ o.cs, c ∉ s.sp) : (o.ans s i had).st = 5 ∧ (o.ans s i had).fk = (s.at i).k ∧ (o.ans s i had).nm = (s.at i).r ∧ (o.ans s i had).had = had ∧ (o.ans s i had).code = o.code := by
  have e : ((o.told s i had).owned s).cs = [] := by
    show o.cs.filter (fun c => s.sp.contains c) = []
    rw [List.filter_eq_nil_iff]
    intro c hc
    simpa using h c hc
  refine ⟨?_, rfl, rfl, rfl, rfl⟩
  show (if ((o.told s i had).owned s).cs.length = 0 then 5 else 4) = 5
  rw [e]; rfl
end
end

section
open Go.RowKit Go.Maps

section
variable {s s' s'' : Sl} {k : ByteArray} {kind : Nat} {r : Int} {h p z : Nat} {o o' : Opm}

/-- It looks. -/
theorem Alo.look (a : Alo s k kind r h p s' o) (hok : s.ok) (hsp : s.sp = []) (h0 : o.st = 1) (hs : Stp z s' o s'' o') : (Fin s k kind r h s'' o') ∨ (o'.st ≠ 5 ∧ Alo s k kind r h (p - 1) s'' o') := by
  obtain ⟨a1, a2, a3, a4, a5⟩ : o.st = 1 ∧ o.tw = 0 ∧ o.cs = [] ∧ s' = s ∧ cnt s (o.pt o.lv) k + o.lv + 1 + (if kind = 2 then 2 * h else 0) ≤ p := by
    rcases a.ph with q | q | q
    · exact q
    · omega
    · omega
  subst a4
  have hlv := a.oi.lv
  obtain ⟨p1, p2, p3⟩ := a.oi.pt o.lv (Nat.le_refl _) hlv
  have hto0 : too s' o ≠ 0 → 1 ≤ too s' o ∧ too s' o < s'.tw.length ∧ o.lv < (s'.at (too s' o)).lk := fun q => ⟨by omega, (hok.nx _ p1 _ p2 q).1, (hok.nx _ p1 _ p2 q).2.1⟩
  have hcsn : ∀ c ∈ o.cs, c ∉ s'.sp := fun c hc => by rw [a3] at hc; cases hc
  have hseen : upd o.pn o.lv (nmo s' o) o.lv = nmo s' o := upd_same _ _ _
  have hbh : bh s' (o.pt o.lv) (nmo s' o) o.lv = too s' o := bh_nx hok p1
  have hnl : nmo s' o < s'.tw.length := hok.nl _ p1 _
  cases hs with
  | leave _ ht =>
    have ht2 : too s' o = 0 ∨ (too s' o < s'.tw.length ∧ Blw o.k (s'.at (too s' o)).k) := by
      by_cases q : too s' o = 0
      · exact .inl q
      · exact .inr ⟨(hto0 q).2.1, ht.resolve_left q⟩
    by_cases hl0 : o.lv = 0
    · -- the lowest level
      have hex : s'.nx (o.pt o.lv) 0 = too s' o := by unfold too; rw [hl0]
      have hends : ∀ x, 1 ≤ x → x < s'.tw.length → Blw (s'.at x).k o.k ∨ (too s' o ≠ 0 ∧ ¬ Blw (s'.at x).k (s'.at (too s' o)).k) := fun x h1 hx => by
        have q := hok.ends (k := o.k) p1 p3 x h1 hx
        rw [hex] at q
        exact q
      have e0 : (o.seen (nmo s' o)).left s' (too s' o) = if o.kind = 0 then (o.seen (nmo s' o)).ans s' 0 false else if o.kind = 1 then (o.seen (nmo s' o)).ans s' (too s' o) (decide (too s' o ≠ 0)) else { o.seen (nmo s' o) with st := 2 } := by
        unfold Opm.left
        rw [if_neg (show ¬ (o.seen (nmo s' o)).tw ≠ 0 from fun q => q a2), if_neg (show ¬ (o.seen (nmo s' o)).lv ≠ 0 from fun q => q hl0)]
        show (if o.kind = 0 then _ else if o.kind = 1 then _ else if o.full = true then _ else _) = _
        rw [a.full]
        rfl
      rw [e0]
      have hsn := ans_nil (o.seen (nmo s' o)) s'
      have hnok : ∀ x, 1 ≤ x → x < s'.tw.length → (s'.at x).k ≠ o.k := fun x h1 hx q => by
        rcases hends x h1 hx with q2 | ⟨q2, q3⟩
        · rw [q] at q2; exact Blw.irrefl q2
        · rw [q] at q3
          exact q3 (ht.resolve_left q2)
      by_cases k0 : o.kind = 0
      · rw [if_pos k0]
        obtain ⟨f1, f2, f3, f4, f5⟩ := hsn 0 false hcsn
        refine .inl ⟨f1, f5.trans a.code, hsp, .inr (.inl ⟨by rw [← a.ekind, k0]; decide, by rw [f2, hok.hd.1], by rw [f3, hok.hd.2.2.2], f4, rfl, fun x h1 hx => ⟨fun q => absurd q (by rw [← a.ekind, k0]; decide), by rw [← a.ek]; exact hnok x h1 hx⟩⟩)⟩
      · rw [if_neg k0]
        by_cases k1 : o.kind = 1
        · rw [if_pos k1]
          obtain ⟨f1, f2, f3, f4, f5⟩ := hsn (too s' o) (decide (too s' o ≠ 0)) hcsn
          by_cases q0 : too s' o = 0
          · refine .inl ⟨f1, f5.trans a.code, hsp, .inr (.inl ⟨by rw [← a.ekind, k1]; decide, by rw [f2, q0, hok.hd.1], by rw [f3, q0, hok.hd.2.2.2], by rw [f4, q0]; rfl, rfl, fun x h1 hx => ⟨fun _ => ?_, by rw [← a.ek]; exact hnok x h1 hx⟩⟩)⟩
            rcases hends x h1 hx with q2 | ⟨q2, q3⟩
            · rw [← a.ek]; exact q2
            · exact absurd q0 q2
          · have hq := hto0 q0
            refine .inl ⟨f1, f5.trans a.code, hsp, .inl ⟨too s' o, hq.1, hq.2.1, f2, f3, by rw [f4]; exact decide_eq_true q0, rfl, .inr ⟨by rw [← a.ekind]; exact k1, by rw [← a.ek]; exact ht.resolve_left q0, fun x h1 hx => ?_⟩⟩⟩
            rw [← a.ek]
            exact (hends x h1 hx).imp id (fun q => q.2)
        · rw [if_neg k1]
          have hk2 : kind = 2 := a.k2 (by rw [← a.ekind]; exact k0) (by rw [← a.ekind]; exact k1)
          have heh := a.eh hk2
          rw [if_pos hk2] at a5
          refine .inr ⟨show (2 : Nat) ≠ 5 by decide, ⟨⟨hlv, a.oi.pt, fun l _ h1 h8 => ?_, fun _ => ⟨hl0, a2, by show o.kind = 2; rw [a.ekind]; exact hk2, by show good o.k = true; rw [a.ek]; exact a.gd hk2, by show o.cs.length ≤ o.h; rw [a3]; simp⟩, fun q => absurd q (show ¬ (2 : Nat) = 3 by decide), fun q => absurd a2 q, fun _ => ⟨fun c hc => (by have q : c ∈ o.cs := hc; rw [a3] at q; cases q), (by show o.cs.Nodup; rw [a3]; exact List.nodup_nil)⟩, a.oi.h8, a.oi.cl⟩, a.ek, a.ekind, a.er, a.eh, a.full, a.code, a.gd, a.kd, a.k2, fun l _ h1 h8 => ?_, .inr (.inl ⟨rfl, rfl, by rw [hsp]; exact a3.symm, ?_, fun x h1 hx => by rw [← a.ek]; exact hnok x h1 hx⟩)⟩⟩
          · show upd o.pn o.lv (nmo s' o) l < _ ∧ (bh s' (o.pt l) (upd o.pn o.lv (nmo s' o) l) l = 0 ∨ (bh s' (o.pt l) (upd o.pn o.lv (nmo s' o) l) l < _ ∧ Blw o.k (s'.at (bh s' (o.pt l) (upd o.pn o.lv (nmo s' o) l) l)).k))
            by_cases q : l = o.lv
            · subst q
              rw [hseen, hbh]
              exact ⟨hnl, ht2⟩
            · rw [upd_ne _ q]
              exact a.oi.pn l (.inl (by omega)) (by omega) h8
          · show upd o.pn o.lv (nmo s' o) l = (s'.at (o.pt l)).ns l
            by_cases q : l = o.lv
            · subst q; rw [hseen]; rfl
            · rw [upd_ne _ q]; exact a.ex l (.inl (by omega)) (by omega) h8
          · show (h - o.cs.length) + h ≤ p - 1
            rw [a3]; simp; omega
    · -- one level down
      have e0 : (o.seen (nmo s' o)).left s' (too s' o) = { o.seen (nmo s' o) with lv := o.lv - 1, pt := upd o.pt (o.lv - 1) (o.pt o.lv) } := by
        unfold Opm.left
        rw [if_neg (show ¬ (o.seen (nmo s' o)).tw ≠ 0 from fun q => q a2), if_pos (show (o.seen (nmo s' o)).lv ≠ 0 from hl0)]
        rfl
      rw [e0]
      have hpt2 : ∀ l, o.lv ≤ l → upd o.pt (o.lv - 1) (o.pt o.lv) l = o.pt l := fun l hl => upd_ne _ (by omega)
      refine .inr ⟨show o.st ≠ 5 by omega, ⟨⟨show o.lv - 1 < 8 by omega, fun l h1 h8 => ?_, fun l hq h1 h8 => ?_, fun q => absurd (show o.st = 2 from q) (by omega), fun q => absurd (show o.st = 3 from q) (by omega), fun q => absurd a2 q, a.oi.cs, a.oi.h8, a.oi.cl⟩, a.ek, a.ekind, a.er, a.eh, a.full, a.code, a.gd, a.kd, a.k2, fun l hq h1 h8 => ?_, .inl ⟨h0, a2, a3, rfl, ?_⟩⟩⟩
      · show upd o.pt (o.lv - 1) (o.pt o.lv) l < _ ∧ l < (s'.at (upd o.pt (o.lv - 1) (o.pt o.lv) l)).lk ∧ (upd o.pt (o.lv - 1) (o.pt o.lv) l = 0 ∨ Blw (s'.at (upd o.pt (o.lv - 1) (o.pt o.lv) l)).k o.k)
        by_cases q : l = o.lv - 1
        · subst q
          rw [upd_same]
          exact ⟨p1, by omega, p3⟩
        · have h1' : o.lv - 1 ≤ l := h1
          rw [hpt2 l (by omega)]
          exact a.oi.pt l (by omega) h8
      · have hl : o.lv ≤ l := by
          rcases hq with q | q
          · have : o.lv - 1 < l := q; omega
          · exact absurd h0 q
        show upd o.pn o.lv (nmo s' o) l < _ ∧ (bh s' (upd o.pt (o.lv - 1) (o.pt o.lv) l) (upd o.pn o.lv (nmo s' o) l) l = 0 ∨ (bh s' (upd o.pt (o.lv - 1) (o.pt o.lv) l) (upd o.pn o.lv (nmo s' o) l) l < _ ∧ Blw o.k (s'.at (bh s' (upd o.pt (o.lv - 1) (o.pt o.lv) l) (upd o.pn o.lv (nmo s' o) l) l)).k))
        rw [hpt2 l hl]
        by_cases q : l = o.lv
        · subst q
          rw [hseen, hbh]
          exact ⟨hnl, ht2⟩
        · rw [upd_ne _ q]
          exact a.oi.pn l (.inl (by omega)) hl h8
      · have hl : o.lv ≤ l := by
          rcases hq with q | q
          · have : o.lv - 1 < l := q; omega
          · exact absurd h0 q
        show upd o.pn o.lv (nmo s' o) l = (s'.at (upd o.pt (o.lv - 1) (o.pt o.lv) l)).ns l
        rw [hpt2 l hl]
        by_cases q : l = o.lv
        · subst q; rw [hseen]; rfl
        · rw [upd_ne _ q]; exact a.ex l (.inl (by omega)) hl h8
      · show cnt s' (upd o.pt (o.lv - 1) (o.pt o.lv) (o.lv - 1)) k + (o.lv - 1) + 1 + _ ≤ p - 1
        rw [upd_same]
        omega
  | found _ ht hk =>
    obtain ⟨f1, f2, f3, f4, f5⟩ := ans_nil (o.seen (nmo s' o)) s' (too s' o) true hcsn
    have hq := hto0 ht
    exact .inl ⟨f1, f5.trans a.code, hsp, .inl ⟨too s' o, hq.1, hq.2.1, f2, f3, f4, rfl, .inl (by rw [← a.ek]; exact hk.symm)⟩⟩
  | pass _ ht hk =>
    have hq := hto0 ht
    have hxi : o.pt o.lv = 0 ∨ Blw (s'.at (o.pt o.lv)).k (s'.at (too s' o)).k := .inr (hok.nx _ p1 _ p2 ht).2.2
    have hc := cnt_pass (k := k) ht hq.2.1 hxi (by rw [← a.ek]; exact hk)
    refine .inr ⟨show o.st ≠ 5 by omega, ⟨⟨hlv, fun l h1 h8 => ?_, fun l hq2 h1 h8 => ?_, fun q => absurd (show o.st = 2 from q) (by omega), fun q => absurd (show o.st = 3 from q) (by omega), fun q => absurd a2 q, a.oi.cs, a.oi.h8, a.oi.cl⟩, a.ek, a.ekind, a.er, a.eh, a.full, a.code, a.gd, a.kd, a.k2, fun l hq2 h1 h8 => ?_, .inl ⟨h0, a2, a3, rfl, ?_⟩⟩⟩
    · show upd o.pt o.lv (too s' o) l < _ ∧ l < (s'.at (upd o.pt o.lv (too s' o) l)).lk ∧ (upd o.pt o.lv (too s' o) l = 0 ∨ Blw (s'.at (upd o.pt o.lv (too s' o) l)).k o.k)
      by_cases q : l = o.lv
      · subst q
        rw [upd_same]
        exact ⟨hq.2.1, hq.2.2, .inr hk⟩
      · rw [upd_ne _ q]
        exact a.oi.pt l h1 h8
    · have hl : o.lv < l := by
        rcases hq2 with q | q
        · exact q
        · exact absurd h0 q
      show upd o.pn o.lv (nmo s' o) l < _ ∧ (bh s' (upd o.pt o.lv (too s' o) l) (upd o.pn o.lv (nmo s' o) l) l = 0 ∨ (bh s' (upd o.pt o.lv (too s' o) l) (upd o.pn o.lv (nmo s' o) l) l < _ ∧ Blw o.k (s'.at (bh s' (upd o.pt o.lv (too s' o) l) (upd o.pn o.lv (nmo s' o) l) l)).k))
      rw [upd_ne _ (show l ≠ o.lv by omega), upd_ne _ (show l ≠ o.lv by omega)]
      exact a.oi.pn l (.inl hl) h1 h8
    · have hl : o.lv < l := by
        rcases hq2 with q | q
        · exact q
        · exact absurd h0 q
      show upd o.pn o.lv (nmo s' o) l = (s'.at (upd o.pt o.lv (too s' o) l)).ns l
      rw [upd_ne _ (show l ≠ o.lv by omega), upd_ne _ (show l ≠ o.lv by omega)]
      exact a.ex l (.inl hl) h1 h8
    · show cnt s' (upd o.pt o.lv (too s' o) o.lv) k + o.lv + 1 + _ ≤ p - 1
      rw [upd_same]
      omega
  | take c q => omega
  | link q => omega
  | late q => omega
  | raise q => omega
  | slip q => omega
end
end

section
open Go.RowKit Go.Maps

section
variable {s s' s'' : Sl} {k : ByteArray} {kind : Nat} {r : Int} {h p z : Nat} {o o' : Opm}

theorem linked_old {i : Nat} {kk : ByteArray} {rr : Int} {cs : List Nat} (hi : i < s.tw.length) {x : Nat} (hx : x < s.tw.length) : ((s.linked i kk rr cs).at x).k = (s.at x).k ∧ ((s.linked i kk rr cs).at x).lk = (s.at x).lk ∧ ((s.linked i kk rr cs).at x).fs = (s.at x).fs ∧ ∀ l, l ≠ 0 → ((s.linked i kk rr cs).at x).ns l = (s.at x).ns l := by
  rw [linked_at hi, if_neg (by omega)]
  split
  · rename_i e
    rw [e]
    exact ⟨rfl, rfl, rfl, fun l hl => upd_ne _ hl⟩
  · exact ⟨rfl, rfl, rfl, fun _ _ => rfl⟩
theorem raised_old {i j l : Nat} (hi : i < s.tw.length) (hj : j < s.tw.length) (x : Nat) : ((s.raised i j l).at x).k = (s.at x).k ∧ (x ≠ j → ((s.raised i j l).at x).lk = (s.at x).lk ∧ ((s.raised i j l).at x).fs = (s.at x).fs) ∧ ∀ y, y ≠ l → ((s.raised i j l).at x).ns y = (s.at x).ns y := by
  rw [raised_at hi hj]
  split
  · rename_i e
    rw [e]
    exact ⟨rfl, fun q => absurd rfl q, fun _ _ => rfl⟩
  · split
    · rename_i e
      rw [e]
      exact ⟨rfl, fun _ => ⟨rfl, rfl⟩, fun y hy => upd_ne _ hy⟩
    · exact ⟨rfl, fun _ => ⟨rfl, rfl⟩, fun _ _ => rfl⟩
theorem bh_same {i num l : Nat} (h1 : s'.tw.length = s.tw.length ∨ (s.tw.length ≤ s'.tw.length ∧ num < s.tw.length)) (h2 : (s'.at i).fs l = (s.at i).fs l) : bh s' i num l = bh s i num l := by
  unfold bh
  rw [h2]
  by_cases q : num = 0
  · rw [if_pos q, if_pos q]
  · rw [if_neg q, if_neg q]
    rcases h1 with e | ⟨e1, e2⟩
    · rw [e]
    · rw [if_neg (by omega), if_neg (by omega)]

/-- It puts its tower in. -/
theorem Alo.put (a : Alo s k kind r h p s' o) (hok : s'.ok) (h0 : o.st = 2) (hs : Stp z s' o s'' o') : (Fin s k kind r h s'' o') ∨ (o'.st ≠ 5 ∧ Alo s k kind r h (p - 1) s'' o') := by
  obtain ⟨a1, a2, a3, a4, a5⟩ : o.st = 2 ∧ ks s' = ks s ∧ s'.sp = o.cs ∧ (h - o.cs.length) + h ≤ p ∧ ∀ x, 1 ≤ x → x < s.tw.length → (s.at x).k ≠ k := by
    rcases a.ph with q | q | q
    · omega
    · exact q
    · omega
  obtain ⟨t1, t2, t3, t4, t5⟩ := a.oi.two h0
  obtain ⟨cs1, cs2⟩ := a.oi.cs t2
  have hk2 : kind = 2 := by rw [← a.ekind]; exact t3
  obtain ⟨e1, e2, e3⟩ := a.eh hk2
  obtain ⟨p1, p2, p3⟩ := a.oi.pt 0 (by omega) (by decide)
  have hlen := ks_len a2
  cases hs with
  | leave q => omega
  | found q => omega
  | pass q => omega
  | raise q => omega
  | slip q => omega
  | late _ hl hn => exact absurd (a.ex 0 (.inr (by omega)) (by omega) (by decide)).symm hn
  | take c _ hl hz hc =>
    refine .inr ⟨show o.st ≠ 5 by omega, ⟨⟨a.oi.lv, a.oi.pt, a.oi.pn, fun _ => ⟨t1, t2, t3, t4, by show (o.cs ++ [c]).length ≤ o.h; simp; omega⟩, a.oi.thr, fun q => absurd t2 q, fun _ => ⟨fun x hx => ?_, ?_⟩, a.oi.h8, by show (o.cs ++ [c]).length ≤ 8; simp; omega⟩, a.ek, a.ekind, a.er, a.eh, a.full, a.code, a.gd, a.kd, a.k2, a.ex, .inr (.inl ⟨h0, a2, by show s'.sp ++ [c] = o.cs ++ [c]; rw [a3], ?_, a5⟩)⟩⟩
    · show x ∈ s'.sp ++ [c]
      have hx2 : x ∈ o.cs ++ [c] := hx
      rw [a3]; exact hx2
    · show (o.cs ++ [c]).Nodup
      rw [List.nodup_append]
      refine ⟨cs2, by simp, fun x hx y hy e => ?_⟩
      simp at hy
      subst hy
      subst e
      exact hc (sp_cells (cs1 x hx))
    · show (h - (o.cs ++ [c]).length) + h ≤ p - 1
      simp; omega
  | link _ hl hn =>
    have hsp2 : (s'.linked (o.pt 0) o.k o.r o.cs).sp = [] := by
      show s'.sp.filter (fun c => !o.cs.contains c) = []
      rw [a3, List.filter_eq_nil_iff]
      intro c hc
      simpa using hc
    have hks : ks (s'.linked (o.pt 0) o.k o.r o.cs) = ks s ++ [(k, r, h)] := by rw [ks_linked, a2, a.ek, a.er, hl, e1]
    have hl2 := linked_len (s := s') (i := o.pt 0) (k := o.k) (r := o.r) (cs := o.cs)
    have hat : (s'.linked (o.pt 0) o.k o.r o.cs).at s'.tw.length = newT s' (o.pt 0) o.k o.r o.cs := by rw [linked_at p1, if_pos rfl]
    by_cases hh : o.lv + 1 = o.h
    · have e0 : ({ o with st := 1, tw := s'.tw.length } : Opm).rose (s'.linked (o.pt 0) o.k o.r o.cs) = ({ o with st := 3, tw := s'.tw.length, lv := o.lv + 1 } : Opm).ans (s'.linked (o.pt 0) o.k o.r o.cs) s'.tw.length false := by
        unfold Opm.rose
        rw [if_pos (show o.lv + 1 = o.h from hh)]
      rw [e0]
      obtain ⟨f1, f2, f3, f4, f5⟩ := ans_nil ({ o with st := 3, tw := s'.tw.length, lv := o.lv + 1 } : Opm) (s'.linked (o.pt 0) o.k o.r o.cs) s'.tw.length false (fun c _ => by rw [hsp2]; simp)
      refine .inl ⟨f1, f5.trans a.code, hsp2, .inr (.inr ⟨hk2, ?_, ?_, f4, hks, a5⟩)⟩
      · rw [f2, hat]; exact a.ek
      · rw [f3, hat]; exact a.er
    · have e0 : ({ o with st := 1, tw := s'.tw.length } : Opm).rose (s'.linked (o.pt 0) o.k o.r o.cs) = { o with st := 3, tw := s'.tw.length, lv := o.lv + 1 } := by
        unfold Opm.rose
        rw [if_neg (show ¬ o.lv + 1 = o.h from hh)]
      rw [e0]
      have hn1 := hok.n1
      refine .inr ⟨show (3 : Nat) ≠ 5 by decide, ⟨⟨show o.lv + 1 < 8 by omega, fun l h1 h8 => ?_, fun l hq h1 h8 => ?_, fun q => absurd q (show ¬ (3 : Nat) = 2 by decide), fun _ => (show s'.tw.length ≠ 0 by omega), fun _ => ?_, fun q => absurd q (show s'.tw.length ≠ 0 by omega), a.oi.h8, a.oi.cl⟩, a.ek, a.ekind, a.er, a.eh, a.full, a.code, a.gd, fun _ => hk2, a.k2, fun l hq h1 h8 => ?_, .inr (.inr ⟨rfl, hks, hsp2, hlen, ?_, a5⟩)⟩⟩
      · have h1' : o.lv + 1 ≤ l := h1
        obtain ⟨q1, q2, q3⟩ := a.oi.pt l (by omega) h8
        obtain ⟨g1, g2, g3, g4⟩ := linked_old (kk := o.k) (rr := o.r) (cs := o.cs) p1 q1
        rw [hl2]
        exact ⟨(by show o.pt l < _; omega), (by show l < ((s'.linked (o.pt 0) o.k o.r o.cs).at (o.pt l)).lk; rw [g2]; exact q2), (by show o.pt l = 0 ∨ Blw ((s'.linked (o.pt 0) o.k o.r o.cs).at (o.pt l)).k o.k; rw [g1]; exact q3)⟩
      · have h1' : o.lv + 1 ≤ l := h1
        obtain ⟨q1, q2, q3⟩ := a.oi.pt l (by omega) h8
        obtain ⟨g1, g2, g3, g4⟩ := linked_old (kk := o.k) (rr := o.r) (cs := o.cs) p1 q1
        obtain ⟨n1, n2⟩ := a.oi.pn l (.inr (by omega)) (by omega) h8
        have eb : bh (s'.linked (o.pt 0) o.k o.r o.cs) (o.pt l) (o.pn l) l = bh s' (o.pt l) (o.pn l) l := bh_same (.inr ⟨by omega, n1⟩) (by rw [g3])
        show o.pn l < _ ∧ (bh _ (o.pt l) (o.pn l) l = 0 ∨ (bh _ (o.pt l) (o.pn l) l < _ ∧ Blw o.k (Sl.at _ (bh _ (o.pt l) (o.pn l) l)).k))
        rw [eb, hl2]
        refine ⟨by omega, n2.imp id (fun q => ⟨by omega, ?_⟩)⟩
        rw [(linked_old p1 q.1).1]
        exact q.2
      · show s'.tw.length < (s'.linked (o.pt 0) o.k o.r o.cs).tw.length ∧ ((s'.linked (o.pt 0) o.k o.r o.cs).at s'.tw.length).k = o.k ∧ ((s'.linked (o.pt 0) o.k o.r o.cs).at s'.tw.length).lk = o.lv + 1 ∧ o.lv + 1 < ((s'.linked (o.pt 0) o.k o.r o.cs).at s'.tw.length).h ∧ ((s'.linked (o.pt 0) o.k o.r o.cs).at s'.tw.length).h = o.h ∧ 1 ≤ o.lv + 1
        rw [hat, hl2]
        exact ⟨by omega, rfl, (by show 1 = _; omega), (by show _ < o.cs.length; omega), hl, by omega⟩
      · have h1' : o.lv + 1 ≤ l := h1
        obtain ⟨q1, q2, q3⟩ := a.oi.pt l (by omega) h8
        show o.pn l = ((s'.linked (o.pt 0) o.k o.r o.cs).at (o.pt l)).ns l
        rw [(linked_old p1 q1).2.2.2 l (by omega)]
        exact a.ex l (.inr (by omega)) (by omega) h8
      · show h - (o.lv + 1) ≤ p - 1
        omega

/-- It raises its tower. -/
theorem Alo.raise (a : Alo s k kind r h p s' o) (hok : s'.ok) (h0 : o.st = 3) (hs : Stp z s' o s'' o') : (Fin s k kind r h s'' o') ∨ (o'.st ≠ 5 ∧ Alo s k kind r h (p - 1) s'' o') := by
  obtain ⟨a1, a2, a3, a4, a5, a6⟩ : o.st = 3 ∧ ks s' = ks s ++ [(k, r, h)] ∧ s'.sp = [] ∧ o.tw = s.tw.length ∧ h - o.lv ≤ p ∧ ∀ x, 1 ≤ x → x < s.tw.length → (s.at x).k ≠ k := by
    rcases a.ph with q | q | q
    · omega
    · omega
    · exact q
  have t0 := a.oi.thr h0
  obtain ⟨t1, t2, t3, t4, t5, t6⟩ := a.oi.tw t0
  have hk2 : kind = 2 := a.kd t0
  obtain ⟨e1, e2, e3⟩ := a.eh hk2
  have hlv := a.oi.lv
  obtain ⟨p1, p2, p3⟩ := a.oi.pt o.lv (Nat.le_refl _) hlv
  have hnt : ∀ l, o.lv ≤ l → l < 8 → o.pt l ≠ o.tw := fun l hl h8 e => by
    have := (a.oi.pt l hl h8).2.1
    rw [e] at this
    omega
  cases hs with
  | leave q => omega
  | found q => omega
  | pass q => omega
  | take c q => omega
  | link q => omega
  | late q => omega
  | slip _ hn => exact absurd (a.ex o.lv (.inr (by omega)) (Nat.le_refl _) hlv).symm hn
  | raise _ hn =>
    have hks : ks (s'.raised (o.pt o.lv) o.tw o.lv) = ks s ++ [(k, r, h)] := by rw [ks_raised]; exact a2
    have hl2 := raised_len (s := s') (i := o.pt o.lv) (j := o.tw) (l := o.lv)
    have hat : (s'.raised (o.pt o.lv) o.tw o.lv).at o.tw = { s'.at o.tw with fs := upd (s'.at o.tw).fs o.lv (s'.nx (o.pt o.lv) o.lv), lk := o.lv + 1 } := by rw [raised_at p1 t1, if_pos rfl]
    have hr2 : (s'.at o.tw).r = r := by
      have hx := congrArg (fun l : List (ByteArray × Int × Nat) => l[o.tw]?) a2
      unfold ks at hx
      simp only [List.getElem?_map, at_some t1, Option.map_some] at hx
      rw [List.getElem?_append_right (by simp [a4])] at hx
      simp [a4] at hx
      rw [a4]
      exact hx.2.1
    by_cases hh : o.lv + 1 = o.h
    · have e0 : o.rose (s'.raised (o.pt o.lv) o.tw o.lv) = ({ o with st := 3, lv := o.lv + 1 } : Opm).ans (s'.raised (o.pt o.lv) o.tw o.lv) o.tw false := by
        unfold Opm.rose
        rw [if_pos hh]
      rw [e0]
      obtain ⟨f1, f2, f3, f4, f5⟩ := ans_nil ({ o with st := 3, lv := o.lv + 1 } : Opm) (s'.raised (o.pt o.lv) o.tw o.lv) o.tw false (fun c _ => by show c ∉ s'.sp; rw [a3]; simp)
      refine .inl ⟨f1, f5.trans a.code, a3, .inr (.inr ⟨hk2, ?_, ?_, f4, hks, a6⟩)⟩
      · rw [f2, hat]; exact t2.trans a.ek
      · rw [f3, hat]; exact hr2
    · have e0 : o.rose (s'.raised (o.pt o.lv) o.tw o.lv) = { o with st := 3, lv := o.lv + 1 } := by
        unfold Opm.rose
        rw [if_neg hh]
      rw [e0]
      refine .inr ⟨show (3 : Nat) ≠ 5 by decide, ⟨⟨show o.lv + 1 < 8 by omega, fun l h1 h8 => ?_, fun l hq h1 h8 => ?_, fun q => absurd q (show ¬ (3 : Nat) = 2 by decide), fun _ => t0, fun _ => ?_, fun q => absurd q t0, a.oi.h8, a.oi.cl⟩, a.ek, a.ekind, a.er, a.eh, a.full, a.code, a.gd, a.kd, a.k2, fun l hq h1 h8 => ?_, .inr (.inr ⟨rfl, hks, a3, a4, ?_, a6⟩)⟩⟩
      · have h1' : o.lv + 1 ≤ l := h1
        obtain ⟨q1, q2, q3⟩ := a.oi.pt l (by omega) h8
        obtain ⟨g1, g2, g3⟩ := raised_old (l := o.lv) p1 t1 (o.pt l)
        have g4 := g2 (hnt l (by omega) h8)
        rw [hl2]
        exact ⟨q1, (by show l < ((s'.raised (o.pt o.lv) o.tw o.lv).at (o.pt l)).lk; rw [g4.1]; exact q2), (by show o.pt l = 0 ∨ Blw ((s'.raised (o.pt o.lv) o.tw o.lv).at (o.pt l)).k o.k; rw [g1]; exact q3)⟩
      · have h1' : o.lv + 1 ≤ l := h1
        obtain ⟨n1, n2⟩ := a.oi.pn l (.inr (by omega)) (by omega) h8
        obtain ⟨g1, g2, g3⟩ := raised_old (l := o.lv) p1 t1 (o.pt l)
        have g4 := g2 (hnt l (by omega) h8)
        have eb : bh (s'.raised (o.pt o.lv) o.tw o.lv) (o.pt l) (o.pn l) l = bh s' (o.pt l) (o.pn l) l := bh_same (.inl hl2) (by rw [g4.2])
        show o.pn l < _ ∧ (bh _ (o.pt l) (o.pn l) l = 0 ∨ (bh _ (o.pt l) (o.pn l) l < _ ∧ Blw o.k (Sl.at _ (bh _ (o.pt l) (o.pn l) l)).k))
        rw [eb, hl2]
        refine ⟨n1, n2.imp id (fun q => ⟨q.1, ?_⟩)⟩
        rw [(raised_old p1 t1 _).1]
        exact q.2
      · show o.tw < (s'.raised (o.pt o.lv) o.tw o.lv).tw.length ∧ ((s'.raised (o.pt o.lv) o.tw o.lv).at o.tw).k = o.k ∧ ((s'.raised (o.pt o.lv) o.tw o.lv).at o.tw).lk = o.lv + 1 ∧ o.lv + 1 < ((s'.raised (o.pt o.lv) o.tw o.lv).at o.tw).h ∧ ((s'.raised (o.pt o.lv) o.tw o.lv).at o.tw).h = o.h ∧ 1 ≤ o.lv + 1
        rw [hat, hl2]
        exact ⟨t1, t2, rfl, (by show _ < (s'.at o.tw).h; omega), t5, by omega⟩
      · have h1' : o.lv + 1 ≤ l := h1
        show o.pn l = ((s'.raised (o.pt o.lv) o.tw o.lv).at (o.pt l)).ns l
        rw [(raised_old p1 t1 _).2.2 l (by omega)]
        exact a.ex l (.inr (by omega)) (by omega) h8
      · show h - (o.lv + 1) ≤ p - 1
        omega
end
end

section
open Go.RowKit Go.Maps

theorem cells_len (s : Sl) : s.cells.length = ((ks s).map fun x => x.2.2).sum + s.sp.length := by
  unfold Sl.cells Sl.own ks
  rw [List.length_append, List.length_flatten, List.map_map, List.map_map]
  congr 2
  apply List.map_congr_left
  intro t _
  simp [Tw.cells]
section
variable {s s' s'' : Sl} {k : ByteArray} {kind : Nat} {r : Int} {h p z : Nat} {o o' : Opm}
theorem Alo.room (a : Alo s k kind r h p s' o) (hsp : s.sp = []) (hz : kind = 2 → s.cells.length + h ≤ z) : o.st = 2 → o.cs.length < o.h → s'.cells.length < z := by
  intro h2 hl
  have hk : kind = 2 := by rw [← a.ekind]; exact (a.oi.two h2).2.2.1
  have h1 := hz hk
  have h3 := (a.eh hk).1
  rcases a.ph with q | q | q
  · omega
  · rw [cells_len, q.2.1, q.2.2.1]
    rw [cells_len, hsp] at h1
    simp at h1
    omega
  · omega
theorem Alo.st3 (a : Alo s k kind r h p s' o) : o.st = 1 ∨ o.st = 2 ∨ o.st = 3 := by
  rcases a.ph with q | q | q <;> omega
theorem Alo.step (a : Alo s k kind r h p s' o) (hok : s.ok) (hok' : s'.ok) (hsp : s.sp = []) (hs : Stp z s' o s'' o') : (Fin s k kind r h s'' o') ∨ (o'.st ≠ 5 ∧ Alo s k kind r h (p - 1) s'' o') := by
  rcases a.st3 with q | q | q
  · exact a.look hok hsp q hs
  · exact a.put hok' q hs
  · exact a.raise hok' q hs
theorem Alo.start (hok : s.ok) (hk2 : kind ≠ 0 → kind ≠ 1 → kind = 2) (hh : kind = 2 → good k = true ∧ 1 ≤ h ∧ h ≤ 8) : Alo s k kind r h (s.tw.length - 1 + 8 + (if kind = 2 then 2 * h else 0)) s { opS kind k with r := r, h := h } := by
  have hn : ∀ l, ((7 : Nat) < l ∨ (1 : Nat) ≠ 1) → l < 8 → False := fun l q h8 => by omega
  have hc := cnt_le s 0 k
  refine ⟨⟨show 7 < 8 by decide, fun l h1 h8 => ⟨hok.n1, ?_, .inl rfl⟩, fun l q h1 h8 => (hn l q h8).elim, fun q => absurd q (show ¬ (1 : Nat) = 2 by decide), fun q => absurd q (show ¬ (1 : Nat) = 3 by decide), fun q => absurd rfl q, fun _ => ⟨fun c hc => ?_, ?_⟩, fun q => (hh q).2, ?_⟩, rfl, rfl, rfl, fun q => ⟨rfl, (hh q).2⟩, rfl, rfl, fun q => (hh q).1, fun q => absurd rfl q, hk2, fun l q h1 h8 => (hn l q h8).elim, .inl ⟨rfl, rfl, rfl, rfl, ?_⟩⟩
  · show l < (s.at 0).lk
    rw [hok.hd.2.2.1]; exact h8
  · exact absurd hc (by simp [opS])
  · simp [opS]
  · simp [opS]
  · show cnt s 0 k + 7 + 1 + _ ≤ _
    omega
end
section
variable {w : World} {K B : Nat → Prop} {lb d z M : Nat} {s : Sl} {ob : Nat} {cv : Value} {o : Opm} {k : ByteArray} {kind : Nat} {r : Int} {h : Nat}
theorem LT.ok (h : LT w K lb d z M s) : s.ok := by
  obtain ⟨g, gt, tc, sv, T, N, m, F, hL, hok, r⟩ := h
  exact hok
theorem LT.up {M' : Nat} (h : LT w K lb d z M s) (hM : M ≤ M') : LT w K lb d z M' s := by
  obtain ⟨g, gt, tc, sv, T, N, m, F, hL, hok, hcw, hz, m1, m2⟩ := h
  exact ⟨g, gt, tc, sv, T, N, m, F, hL, hok, hcw, hz, m1, by omega⟩
theorem LT.kl (h : LT w K lb d z M s) : ∀ j, K j → j < w.heap.size := by
  obtain ⟨g, gt, tc, sv, T, N, m, F, hL, r⟩ := h
  exact hL.kl
theorem LT.keep {G : Nat → Prop} {w' : World} (h : LT w K lb d z M s) (k : Fr G w w') (hG : ∀ j, K j → ¬ G j) (h0 : ¬ G 0) : LT w' K lb d z M s := by
  obtain ⟨g, gt, tc, sv, T, N, m, F, hL, hok, hcw, hz, m1, m2⟩ := h
  exact ⟨g, gt, tc, sv, T, N, m, F, hL.keep k hG h0, hok, hcw, hz, m1, m2⟩
theorem LT.below {w' : World} (h : LT w K lb d z M s) (hb : Below w.heap.size w w') : LT w' K lb d z M s :=
  h.keep (Fr.below (F := fun _ => False) hb) (fun _ _ => id) id

set_option maxRecDepth 100000 in
set_option maxHeartbeats 4000000 in
/-- done, of an operation alone. -/
theorem done_alone {p : Nat} {most : Nat} (hl : LT w K lb d z M s) (hsp : s.sp = []) (ho : Ob w B ob lb cv o) (hKB : ∀ j, K j → ¬ B j) (hA : Alo s k kind r h p s o) (hz : kind = 2 → s.cells.length + h ≤ z) (hst : o.st ≠ 5) (hp : p ≤ most) (hmo : most ≤ 1000000) (hM : M < 1000000000000) :
    Calls Tryd.prog 15 #[.pointer (some ⟨ob, 0, none⟩), .int .i64 (most : Int)] w fun e w' => ∃ (n : Nat) (s' : Sl) (o' : Opm) (K' B' : Nat → Prop) (cv' : Value), e = .returned (.int .i64 (n : Int)) ∧ 1 ≤ n ∧ Fin s k kind r h s' o' ∧ LT w' K' lb d z (M + p) s' ∧ Ob w' B' ob lb cv' o' ∧ Nx w w' K B K' B' := by
  have hok := hl.ok
  have H := hide2 hl
  have HO := hide2 ho
  have HA := hide2 hA
  have HKB := hide2 hKB
  have HST := hide2 hst
  have hp1 := hA.pos hst
  have HZ := hide2 hz
  have HOK := hide2 hok
  have HSP := hide2 hsp
  clear hl ho hA hKB hst hz hok hsp
  go_enter Tryd.func15, Tryd.ntmps15
  go_wp2
  go_loopw [5, 6] (fun i _ wr => ∃ (n : Nat) (s' : Sl) (o' : Opm) (K' B' : Nat → Prop) (cv' : Value), n < p ∧ i = .int .i64 ((n : Int) + 1) ∧ Hid (Alo s k kind r h (p - n) s' o') ∧ Hid (LT wr K' lb d z (M + n) s') ∧ Hid (Ob wr B' ob lb cv' o') ∧ Hid (∀ j, K' j → ¬ B' j) ∧ Hid (Nx w wr K B K' B')) (fun i _ _ => p + 1 - (intOf i).toNat)
  case atStart =>
    exact ⟨0, s, o, K, B, cv, hp1, rfl, HA, H, HO, HKB, hide2 (Nx.same HKB.out (Fr.refl _ w))⟩
  case round =>
    obtain ⟨n, s', o', K', B', cv', hn, rfl, A, HH, OO, KK, NN⟩ := hrel
    have hnm : (n : Int) + 1 ≤ (most : Int) := by omega
    have hstep := HH.out.step OO.out KK.out A.out.oi A.out.st3 (A.out.room HSP.out HZ.out) (by omega)
    have HS := hide2 hstep
    clear hstep
    go_wp2_with fail
    refine HS.out.mono ?_
    rintro e w1 ⟨s2, o2, K2, B2, cv2, rfl, hS, h2, ho2, hN2⟩
    have A2 := A.out.step HOK.out HH.out.ok HSP.out hS
    have HN2 := hide2 (NN.out.trans hN2)
    have HK2 := hide2 hN2.ap
    have HH2 := hide2 h2
    have HO2 := hide2 ho2
    clear HS h2 ho2 hN2
    rcases A2 with hfin | ⟨h3, hA2⟩
    · have hd : decide (o2.st = 5) = true := decide_eq_true hfin.1
      have H3 := hide2 hfin
      clear hfin
      go_wp2
      go_ret
      exact ⟨n + 1, s2, o2, K2, B2, cv2, rfl, by omega, H3.out, HH2.out.up (by omega), HO2.out, HN2.out⟩
    · have hd : decide (o2.st = 5) = false := decide_eq_false h3
      have hpp := hA2.pos h3
      have HA2 : Hid (Alo s k kind r h (p - (n + 1)) s2 o2) := hide2 (by rwa [Nat.sub_sub] at hA2)
      clear h3 hA2
      go_wp2
      go_round
      case rel => exact ⟨n + 1, s2, o2, K2, B2, cv2, by omega, by go_num, HA2, hide2 (HH2.out.up (by omega)), HO2, HK2, HN2⟩
      case measure => simp [intOf]; omega
end
end
end Go.Proofs.YtopihgdbfhiejaaDoor
