/-
  The list's cells: which are taken, and their numbers.
-/
import Derived.Test.YtopihgdbfhiejaaDoorSa0
set_option linter.unusedVariables false
set_option linter.unusedSimpArgs false
namespace Go.Proofs.YtopihgdbfhiejaaDoor
open Go.RowKit

theorem getD_mem {α : Type} {l : List α} {i : Nat} {z : α} (h : i < l.length) : l.getD i z ∈ l := by
  simp [List.getD, List.getElem?_eq_getElem h]
theorem getD_lt {T : List Bool} {c : Nat} (h : T.getD c false = true) : c < T.length := by
  rcases Nat.lt_or_ge c T.length with h1 | h1
  · exact h1
  · simp [List.getD, List.getElem?_eq_none h1] at h
theorem getD_tf {T : List Bool} {c : Nat} (h : c < T.length) : T.getD c true = T.getD c false := by
  simp [List.getD, List.getElem?_eq_getElem h]
theorem least_of (p : Nat → Bool) : ∀ (c : Nat), p c = true → ∃ m, p m = true ∧ ∀ j, j < m → p j = false := by
  intro c
  induction c using Nat.strongRecOn with
  | _ c ih =>
    intro h
    by_cases hx : ∃ j, j < c ∧ p j = true
    · obtain ⟨j, hj, hp⟩ := hx
      exact ih j hj hp
    · refine ⟨c, h, fun j hj => ?_⟩
      cases hp : p j with
      | false => rfl
      | true => exact absurd ⟨j, hj, hp⟩ hx
theorem free_cell {T : List Bool} (h : T.count true < T.length) : ∃ c, T.getD c true = false ∧ ∀ j, j < c → T.getD j true = true := by
  have h1 : ∃ c, T.getD c true = false := by
    by_cases hx : ∃ c, T.getD c true = false
    · exact hx
    · have : T.count true = T.length := count_all.2 (fun c => by
        cases hp : T.getD c true with
        | true => rfl
        | false => exact absurd ⟨c, hp⟩ hx)
      omega
  obtain ⟨c, hc⟩ := h1
  obtain ⟨m, hm, hl⟩ := least_of (fun c => !T.getD c true) c (by rw [hc]; rfl)
  exact ⟨m, by simpa using hm, fun j hj => by simpa using hl j hj⟩

/-- The cells of a list in its arena. -/
structure Sl.cw (s : Sl) (T : List Bool) (N : List Int) : Prop where
  nd : s.cells.Nodup
  tk : ∀ c ∈ s.cells, T.getD c false = true
  cnt : T.count true = s.cells.length
  tl : T.length = N.length
  z : ∀ c ∈ s.sp, N.getD c 0 = 0
  num : ∀ i, i < s.tw.length → ∀ l, l < (s.at i).h → N.getD ((s.at i).cs l) 0 = ((s.at i).ns l : Int)

theorem map_set_same {f : Tw → List Nat} {l : List Tw} {i : Nat} {t : Tw} (h : f t = f (l.getD i t0)) : (l.set i t).map f = l.map f := by
  apply List.ext_getElem?
  intro j
  rw [List.getElem?_map, List.getElem?_map, List.getElem?_set]
  by_cases e : i = j
  · rw [if_pos e]
    by_cases hi : i < l.length
    · rw [if_pos hi, ← e, List.getElem?_eq_getElem hi]
      simp only [Option.map_some]
      rw [h]
      simp [List.getD, List.getElem?_eq_getElem hi]
    · rw [if_neg hi, ← e, List.getElem?_eq_none (by omega)]
  · rw [if_neg e]

section
variable {s : Sl} {T : List Bool} {N : List Int} {i j l : Nat}

theorem at_mem (hi : i < s.tw.length) : s.at i ∈ s.tw := getD_mem hi
theorem cs_own (hi : i < s.tw.length) (hl : l < (s.at i).h) : (s.at i).cs l ∈ s.own :=
  List.mem_flatten.2 ⟨_, List.mem_map.2 ⟨_, at_mem hi, rfl⟩, List.mem_map.2 ⟨l, List.mem_range.2 hl, rfl⟩⟩
theorem own_cs {c : Nat} (h : c ∈ s.own) : ∃ i l, i < s.tw.length ∧ l < (s.at i).h ∧ (s.at i).cs l = c := by
  obtain ⟨L, hL, hc⟩ := List.mem_flatten.1 h
  obtain ⟨t, ht, rfl⟩ := List.mem_map.1 hL
  obtain ⟨l, hl, e⟩ := List.mem_map.1 hc
  obtain ⟨i, hi, rfl⟩ := List.getElem_of_mem ht
  have ea : s.at i = s.tw[i] := by simp [Sl.at, List.getD, List.getElem?_eq_getElem hi]
  exact ⟨i, l, hi, by rw [ea]; exact List.mem_range.1 hl, by rw [ea]; exact e⟩
theorem cs_inj (hn : s.own.Nodup) {i2 l2 : Nat} (hi : i < s.tw.length) (hl : l < (s.at i).h) (hi2 : i2 < s.tw.length) (hl2 : l2 < (s.at i2).h) (h : (s.at i).cs l = (s.at i2).cs l2) : i = i2 ∧ l = l2 := by
  unfold Sl.own at hn
  obtain ⟨h1, h2⟩ := List.pairwise_flatten.1 hn
  have a1 : s.at i = s.tw[i] := by simp [Sl.at, List.getD, List.getElem?_eq_getElem hi]
  have a2 : s.at i2 = s.tw[i2] := by simp [Sl.at, List.getD, List.getElem?_eq_getElem hi2]
  have m1 : (s.at i).cs l ∈ (s.tw[i]).cells := by rw [a1]; exact List.mem_map.2 ⟨l, List.mem_range.2 (by rw [← a1]; exact hl), rfl⟩
  have m2 : (s.at i).cs l ∈ (s.tw[i2]).cells := by rw [h, a2]; exact List.mem_map.2 ⟨l2, List.mem_range.2 (by rw [← a2]; exact hl2), rfl⟩
  have hp := List.pairwise_iff_getElem.1 h2
  have e : i = i2 := by
    rcases Nat.lt_trichotomy i i2 with q | q | q
    · have := hp i i2 (by simpa using hi) (by simpa using hi2) q
      simp only [List.getElem_map] at this
      exact absurd rfl (this _ m1 _ m2)
    · exact q
    · have := hp i2 i (by simpa using hi2) (by simpa using hi) q
      simp only [List.getElem_map] at this
      exact absurd rfl (this _ m2 _ m1)
  subst e
  refine ⟨rfl, ?_⟩
  have hd := h1 (s.tw[i]).cells (List.mem_map.2 ⟨_, List.getElem_mem hi, rfl⟩)
  unfold Tw.cells at hd
  rw [a1] at h hl hl2
  have hq := List.pairwise_iff_getElem.1 hd
  rcases Nat.lt_trichotomy l l2 with q | q | q
  · have := hq l l2 (by simpa using hl) (by simpa using hl2) q
    simp at this
    exact absurd h this
  · exact q
  · have := hq l2 l (by simpa using hl2) (by simpa using hl) q
    simp at this
    exact absurd h.symm this

theorem Sl.cw.own_nd (h : s.cw T N) : s.own.Nodup := (List.nodup_append.1 h.nd).1
theorem Sl.cw.sp_nd (h : s.cw T N) : s.sp.Nodup := (List.nodup_append.1 h.nd).2.1
theorem Sl.cw.sp_ne (h : s.cw T N) {c : Nat} (hc : c ∈ s.sp) : c ∉ s.own := fun q => (List.nodup_append.1 h.nd).2.2 c q c hc rfl
theorem own_cells {c : Nat} (h : c ∈ s.own) : c ∈ s.cells := List.mem_append.2 (.inl h)
theorem sp_cells {c : Nat} (h : c ∈ s.sp) : c ∈ s.cells := List.mem_append.2 (.inr h)
theorem Sl.cw.lt (h : s.cw T N) {c : Nat} (hc : c ∈ s.cells) : c < N.length := by
  have := getD_lt (h.tk c hc)
  have := h.tl
  omega
theorem Sl.cw.le (h : s.cw T N) : s.cells.length ≤ T.length := by
  have h1 := h.cnt
  have h2 : T.count true ≤ T.length := List.count_le_length
  omega
theorem Sl.cw.free (h : s.cw T N) {c : Nat} (hc : T.getD c true = false) : c < T.length ∧ c ∉ s.cells := by
  have hl : c < T.length := by
    rcases Nat.lt_or_ge c T.length with h1 | h1
    · exact h1
    · simp [List.getD, List.getElem?_eq_none h1] at hc
  refine ⟨hl, fun hm => ?_⟩
  have := h.tk c hm
  rw [getD_tf hl] at hc
  rw [hc] at this; cases this

theorem Sl.cw.taken (h : s.cw T N) {c : Nat} (hc : T.getD c true = false) : (s.taken c).cw (T.set c true) (N.set c 0) := by
  obtain ⟨hl, hf⟩ := h.free hc
  have ec : (s.taken c).cells = s.cells ++ [c] := by simp [Sl.cells, Sl.own, Sl.taken, List.append_assoc]
  refine ⟨?_, fun x hx => ?_, ?_, by simpa using h.tl, fun x hx => ?_, fun x hx y hy => ?_⟩
  · rw [ec, List.nodup_append]
    exact ⟨h.nd, by simp, fun a ha b hb e => by simp at hb; subst hb; exact hf (e ▸ ha)⟩
  · rw [ec] at hx
    rw [getD_set]
    by_cases e : x = c
    · rw [if_pos ⟨e, hl⟩]
    · rw [if_neg (fun q => e q.1)]
      rcases List.mem_append.1 hx with h1 | h1
      · exact h.tk x h1
      · simp at h1; exact absurd h1 e
  · rw [ec, count_on hl hc, h.cnt, List.length_append]
    simp
  · rw [getD_set]
    split
    · rfl
    · rename_i hn
      rcases List.mem_append.1 hx with h1 | h1
      · exact h.z x h1
      · simp at h1
        exact absurd ⟨h1, by have := h.tl; omega⟩ hn
  · rw [getD_set, if_neg]
    · exact h.num x hx y hy
    · rintro ⟨q, -⟩
      exact hf (own_cells (q ▸ cs_own (s := s) hx hy))

theorem filter_ne_perm {l : List Nat} {c : Nat} (hn : l.Nodup) (hc : c ∈ l) : l.Perm (c :: l.filter (fun x => !(x == c))) := by
  induction l with
  | nil => cases hc
  | cons x xs ih =>
    obtain ⟨h1, h2⟩ := List.nodup_cons.1 hn
    by_cases e : x = c
    · subst e
      have : (x :: xs).filter (fun y => !(y == x)) = xs := by
        rw [List.filter_cons_of_neg (by simp), List.filter_eq_self]
        intro y hy
        simp
        exact fun e => h1 (e ▸ hy)
      rw [this]
    · have hm : c ∈ xs := by
        rcases List.mem_cons.1 hc with h3 | h3
        · exact absurd h3.symm e
        · exact h3
      rw [List.filter_cons_of_pos (by simpa using e)]
      exact (List.Perm.cons x (ih h2 hm)).trans (List.Perm.swap c x _)

theorem Sl.cw.given (h : s.cw T N) {c : Nat} (hc : c ∈ s.sp) : (s.given c).cw (T.set c false) N := by
  have hp : (c :: (s.given c).cells).Perm s.cells := by
    unfold Sl.cells
    show (c :: (s.own ++ s.sp.filter fun x => !(x == c))).Perm _
    have h1 := filter_ne_perm h.sp_nd hc
    refine List.Perm.trans ?_ (List.Perm.append_left s.own h1.symm)
    exact List.perm_middle.symm
  have hnd : (c :: (s.given c).cells).Nodup := hp.nodup_iff.2 h.nd
  obtain ⟨d1, d2⟩ := List.nodup_cons.1 hnd
  have hct := h.tk c (sp_cells hc)
  have hcl := getD_lt hct
  refine ⟨d2, fun x hx => ?_, ?_, by simpa using h.tl, fun x hx => h.z x (List.mem_filter.1 hx).1, h.num⟩
  · rw [getD_set, if_neg (show ¬ (x = c ∧ c < T.length) from fun q => d1 (by obtain ⟨q1, -⟩ := q; subst q1; exact hx))]
    exact h.tk x (hp.mem_iff.1 (List.mem_cons_of_mem _ hx))
  · have h1 := count_off hcl (by rw [getD_tf hcl]; exact hct)
    have h2 := hp.length_eq
    simp at h2
    have := h.cnt
    omega

theorem raised_own (hi : i < s.tw.length) (hj : j < s.tw.length) : (s.raised i j l).own = s.own := by
  unfold Sl.own Sl.raised
  show (((s.tw.set i { s.at i with ns := upd (s.at i).ns l j }).set j { s.at j with fs := upd (s.at j).fs l (s.nx i l), lk := l + 1 }).map Tw.cells).flatten = _
  have e1 : (s.tw.set i { s.at i with ns := upd (s.at i).ns l j }).map Tw.cells = s.tw.map Tw.cells := map_set_same rfl
  have e2 : ((s.tw.set i { s.at i with ns := upd (s.at i).ns l j }).set j { s.at j with fs := upd (s.at j).fs l (s.nx i l), lk := l + 1 }).map Tw.cells = (s.tw.set i { s.at i with ns := upd (s.at i).ns l j }).map Tw.cells := by
    refine map_set_same ?_
    rw [getD_set]
    split
    · rename_i q
      show Tw.cells (s.at j) = Tw.cells (s.at i)
      rw [q.1]
    · rfl
  rw [e2, e1]
theorem fset_own {x : Nat} : (s.fset j l x).own = s.own := by
  unfold Sl.own Sl.fset
  show ((s.tw.set j _).map Tw.cells).flatten = _
  rw [map_set_same]
  rfl

theorem Sl.cw.raised (h : s.cw T N) (hi : i < s.tw.length) (hj : j < s.tw.length) (hl : l < (s.at i).h) (hij : i ≠ j) : (s.raised i j l).cw T (N.set ((s.at i).cs l) (j : Int)) := by
  have eo := raised_own (l := l) hi hj
  have ec : (s.raised i j l).cells = s.cells := by unfold Sl.cells; rw [eo]; rfl
  have hcl := h.lt (own_cells (cs_own hi hl))
  refine ⟨by rw [ec]; exact h.nd, fun x hx => h.tk x (by rw [← ec]; exact hx), by rw [ec]; exact h.cnt, by simpa using h.tl, fun x hx => ?_, fun x hx y hy => ?_⟩
  · rw [getD_set, if_neg]
    · exact h.z x hx
    · rintro ⟨q, -⟩
      exact h.sp_ne hx (by rw [q]; exact cs_own hi hl)
  · rw [raised_len] at hx
    have ha := raised_at (l := l) hi hj x
    have hh : ((s.raised i j l).at x).h = (s.at x).h ∧ ((s.raised i j l).at x).cs = (s.at x).cs := by
      rw [ha]; split
      · rename_i e; rw [e]; exact ⟨rfl, rfl⟩
      · split
        · rename_i e; rw [e]; exact ⟨rfl, rfl⟩
        · exact ⟨rfl, rfl⟩
    rw [hh.1] at hy
    rw [hh.2, getD_set]
    by_cases e : x = i ∧ y = l
    · obtain ⟨e1, e2⟩ := e
      subst e1 e2
      rw [if_pos ⟨rfl, hcl⟩, ha, if_neg hij, if_pos rfl]
      show _ = ((upd _ _ _ _ : Nat) : Int)
      rw [upd_same]
    · rw [if_neg]
      · rw [h.num x hx y hy, ha]
        split
        · rename_i e2; rw [e2]
        · split
          · rename_i e2
            show _ = ((upd _ _ _ _ : Nat) : Int)
            rw [upd_ne _ (fun q => e ⟨e2, q⟩), e2]
          · rfl
      · rintro ⟨q, -⟩
        exact e (cs_inj h.own_nd hx hy hi hl q)
theorem Sl.cw.fset {x : Nat} (h : s.cw T N) (hj : j < s.tw.length) : (s.fset j l x).cw T N := by
  have ec : (s.fset j l x).cells = s.cells := by unfold Sl.cells; rw [fset_own]; rfl
  refine ⟨by rw [ec]; exact h.nd, fun x hx => h.tk x (by rw [← ec]; exact hx), by rw [ec]; exact h.cnt, h.tl, h.z, fun y hy z hz => ?_⟩
  rw [fset_len] at hy
  rw [fset_at hj] at hz ⊢
  split
  · rename_i e
    rw [if_pos e] at hz
    exact h.num j hj z hz
  · rename_i e
    rw [if_neg e] at hz
    exact h.num y hy z hz

theorem newT_cells (k : ByteArray) (r : Int) (cs : List Nat) : (newT s i k r cs).cells = cs := by
  unfold Tw.cells newT
  apply List.ext_getElem
  · simp
  · intro y h1 h2
    simp [List.getD, List.getElem?_eq_getElem h2]
theorem linked_own {k : ByteArray} {r : Int} {cs : List Nat} : (s.linked i k r cs).own = s.own ++ cs := by
  have e1 : (s.tw.set i { s.at i with ns := upd (s.at i).ns 0 s.tw.length }).map Tw.cells = s.tw.map Tw.cells := map_set_same rfl
  unfold Sl.own Sl.linked
  rw [List.map_append, List.flatten_append, e1]
  simp [newT_cells]

theorem Sl.cw.linked (h : s.cw T N) (ho : s.ok) {k : ByteArray} {r : Int} {cs : List Nat} (hi : i < s.tw.length) (hc : ∀ c ∈ cs, c ∈ s.sp) (hn : cs.Nodup) : (s.linked i k r cs).cw T (N.set ((s.at i).cs 0) (s.tw.length : Int)) := by
  have eo := linked_own (s := s) (i := i) (k := k) (r := r) (cs := cs)
  have h0 : 0 < (s.at i).h := by have := ho.sh i hi; omega
  have hp : (s.linked i k r cs).cells.Perm s.cells := by
    unfold Sl.cells
    rw [eo, List.append_assoc]
    refine List.Perm.append_left _ ?_
    show (cs ++ s.sp.filter fun c => !cs.contains c).Perm s.sp
    refine (List.perm_ext_iff_of_nodup ?_ h.sp_nd).2 (fun a => ?_)
    · rw [List.nodup_append]
      refine ⟨hn, h.sp_nd.sublist List.filter_sublist, fun a ha b hb e => ?_⟩
      have := (List.mem_filter.1 hb).2
      subst e
      simp [ha] at this
    · rw [List.mem_append, List.mem_filter]
      constructor
      · rintro (q | q)
        · exact hc a q
        · exact q.1
      · intro q
        by_cases q2 : a ∈ cs
        · exact .inl q2
        · exact .inr ⟨q, by simpa using q2⟩
  have hcl := h.lt (own_cells (cs_own hi h0))
  refine ⟨hp.nodup_iff.2 h.nd, fun x hx => h.tk x (hp.mem_iff.1 hx), by rw [hp.length_eq]; exact h.cnt, by simpa using h.tl, fun x hx => ?_, fun x hx y hy => ?_⟩
  · have hx2 : x ∈ s.sp := (List.mem_filter.1 hx).1
    rw [getD_set, if_neg]
    · exact h.z x hx2
    · rintro ⟨q, -⟩
      exact h.sp_ne hx2 (by rw [q]; exact cs_own hi h0)
  · rw [linked_len] at hx
    have ha := linked_at (k := k) (r := r) (cs := cs) hi x
    by_cases e : x = s.tw.length
    · rw [ha, if_pos e] at hy ⊢
      have hy2 : y < cs.length := hy
      have hm : cs.getD y 0 ∈ cs := getD_mem hy2
      show (N.set _ _).getD (cs.getD y 0) 0 = 0
      rw [getD_set, if_neg]
      · exact h.z _ (hc _ hm)
      · rintro ⟨q, -⟩
        exact h.sp_ne (hc _ hm) (by rw [q]; exact cs_own hi h0)
    · have hx2 : x < s.tw.length := by omega
      rw [if_neg e] at ha
      have hh : ((s.linked i k r cs).at x).h = (s.at x).h ∧ ((s.linked i k r cs).at x).cs = (s.at x).cs := by
        rw [ha]; split
        · rename_i e; rw [e]; exact ⟨rfl, rfl⟩
        · exact ⟨rfl, rfl⟩
      rw [hh.1] at hy
      rw [hh.2, getD_set]
      by_cases e2 : x = i ∧ y = 0
      · obtain ⟨e3, e4⟩ := e2
        subst e3 e4
        rw [if_pos ⟨rfl, hcl⟩, ha, if_pos rfl]
        show _ = ((upd (s.at x).ns 0 s.tw.length 0 : Nat) : Int)
        rw [upd_same]
      · rw [if_neg]
        · rw [h.num x hx2 y hy, ha]
          split
          · rename_i e3
            show _ = ((upd (s.at i).ns 0 s.tw.length y : Nat) : Int)
            rw [upd_ne _ (fun q => e2 ⟨e3, q⟩), e3]
          · rfl
        · rintro ⟨q, -⟩
          exact e2 (cs_inj h.own_nd hx2 hy hi h0 q)
end
end Go.Proofs.YtopihgdbfhiejaaDoor
