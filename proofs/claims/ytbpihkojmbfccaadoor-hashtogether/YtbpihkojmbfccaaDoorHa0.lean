/-
  The table without memory: its buckets' cells, its chains, the cells that are in none yet.
-/
import Derived.Test.YtbpihkojmbfccaaDoorC7
set_option linter.unusedVariables false
set_option linter.unusedSimpArgs false
namespace Go.Proofs.YtbpihkojmbfccaaDoor
open Go.RowKit

/-- A key in a chain: its cell, the key, what it names. -/
structure En where
  c : Nat
  k : ByteArray
  r : Int

structure Tb where
  hd : List Nat
  ch : List (List En)
  sp : List Nat

def Tb.at (s : Tb) (b : Nat) : List En := s.ch.getD b []
def Tb.head (s : Tb) (b : Nat) : Nat := s.hd.getD b 0
def Tb.all (s : Tb) : List En := s.ch.flatten
def Tb.cells (s : Tb) : List Nat := s.hd ++ (s.all.map En.c ++ s.sp)

/-- The cells of a chain lead from one to the next. -/
def Lk (N : List Int) : Nat → List En → Prop
  | p, [] => N.getD p 0 = 0
  | p, e :: es => N.getD p 0 = (e.c : Int) + 1 ∧ Lk N e.c es

/-- The cell behind i keys. -/
def plc (p : Nat) : List En → Nat → Nat
  | _, 0 => p
  | [], _ + 1 => p
  | e :: es, i + 1 => plc e.c es i

theorem plc_zero (p : Nat) (es : List En) : plc p es 0 = p := by cases es <;> rfl
theorem plc_succ (p : Nat) (es : List En) (i : Nat) (e : En) (h : es[i]? = some e) : plc p es (i + 1) = e.c := by
  induction es generalizing p i with
  | nil => simp at h
  | cons x xs ih =>
    cases i with
    | zero => simp at h; subst h; simp [plc, plc_zero]
    | succ i => exact ih x.c i (by simpa using h)
theorem plc_append (p : Nat) (es fs : List En) (i : Nat) (h : i ≤ es.length) : plc p (es ++ fs) i = plc p es i := by
  induction es generalizing p i with
  | nil => simp at h; subst h; simp [plc_zero]
  | cons x xs ih =>
    cases i with
    | zero => rfl
    | succ i => exact ih x.c i (by simpa using h)
theorem plc_mem (p : Nat) (es : List En) (i : Nat) : plc p es i = p ∨ plc p es i ∈ es.map En.c := by
  induction es generalizing p i with
  | nil => cases i <;> exact .inl rfl
  | cons x xs ih =>
    cases i with
    | zero => exact .inl rfl
    | succ i =>
      rcases ih x.c i with h | h
      · right; show plc x.c xs i ∈ _; rw [h]; simp
      · right; show plc x.c xs i ∈ _; simp only [List.map_cons, List.mem_cons]; exact .inr h

theorem Lk.at {N : List Int} {p : Nat} {es : List En} (h : Lk N p es) {i : Nat} {e : En} (hi : es[i]? = some e) : N.getD (plc p es i) 0 = (e.c : Int) + 1 := by
  induction es generalizing p i with
  | nil => simp at hi
  | cons x xs ih =>
    cases i with
    | zero => simp at hi; subst hi; exact h.1
    | succ i => exact ih h.2 (by simpa using hi)
theorem Lk.fin {N : List Int} {p : Nat} {es : List En} (h : Lk N p es) : N.getD (plc p es es.length) 0 = 0 := by
  induction es generalizing p with
  | nil => exact h
  | cons x xs ih => exact ih h.2
theorem Lk.set {N : List Int} {p c : Nat} {es : List En} {x : Int} (h : Lk N p es) (h1 : c ≠ p) (h2 : c ∉ es.map En.c) : Lk (N.set c x) p es := by
  induction es generalizing p with
  | nil =>
    show (N.set c x).getD p 0 = 0
    rw [getD_set, if_neg (fun e => h1 e.1.symm)]; exact h
  | cons y ys ih =>
    simp only [List.map_cons, List.mem_cons, not_or] at h2
    refine ⟨?_, ih h.2 h2.1 h2.2⟩
    rw [getD_set, if_neg (fun e => h1 e.1.symm)]; exact h.1
theorem Lk.snoc {N : List Int} {p : Nat} {es : List En} {e : En} (h : Lk N p es) (hz : N.getD e.c 0 = 0) (hn : (p :: (es.map En.c ++ [e.c])).Nodup) (hl : plc p es es.length < N.length) : Lk (N.set (plc p es es.length) ((e.c : Int) + 1)) p (es ++ [e]) := by
  induction es generalizing p with
  | nil =>
    simp only [List.map_nil, List.nil_append, List.nodup_cons, List.mem_singleton] at hn
    refine ⟨?_, ?_⟩
    · show (N.set p _).getD p 0 = _
      rw [getD_set, if_pos ⟨rfl, hl⟩]
    · show (N.set p _).getD e.c 0 = 0
      rw [getD_set, if_neg (fun q => hn.1 q.1.symm)]; exact hz
  | cons x xs ih =>
    have hn2 := (List.nodup_cons.1 hn).2
    have hn1 := (List.nodup_cons.1 hn).1
    refine ⟨?_, ih h.2 hn2 hl⟩
    show (N.set (plc x.c xs xs.length) _).getD p 0 = _
    rw [getD_set, if_neg]
    · exact h.1
    · rintro ⟨q, -⟩
      apply hn1
      rw [q]
      rcases plc_mem x.c xs xs.length with h3 | h3
      · rw [h3]; simp
      · simp only [List.map_cons, List.cons_append, List.mem_cons, List.mem_append]; exact .inr (.inl h3)

/-- What holds of a table in an arena; bk: a key's bucket; u: the cells that others have taken. -/
structure Tb.inv (s : Tb) (bk : ByteArray → Nat) (T : List Bool) (N : List Int) (u : Nat) : Prop where
  n1 : 1 ≤ s.hd.length ∧ s.hd.length ≤ 256
  len : s.ch.length = s.hd.length
  nd : s.cells.Nodup
  tk : ∀ c ∈ s.cells, T.getD c false = true
  cnt : T.count true = u + s.cells.length
  tl : T.length = N.length
  ln : ∀ b, b < s.hd.length → Lk N (s.head b) (s.at b)
  z : ∀ c ∈ s.sp, N.getD c 0 = 0
  key : ∀ b, b < s.hd.length → ∀ e ∈ s.at b, bk e.k = b ∧ 1 ≤ e.k.size ∧ e.k.size ≤ 16
  one : ∀ b, b < s.hd.length → ((s.at b).map En.k).Nodup

theorem getD_mem {α : Type} {l : List α} {i : Nat} {z : α} (h : i < l.length) : l.getD i z ∈ l := by
  simp [List.getD, List.getElem?_eq_getElem h]
theorem getD_inj {α : Type} {l : List α} (hn : l.Nodup) {i j : Nat} {z : α} (hi : i < l.length) (hj : j < l.length) (h : l.getD i z = l.getD j z) : i = j := by
  have a1 : l.getD i z = l[i] := by simp [List.getD, List.getElem?_eq_getElem hi]
  have a2 : l.getD j z = l[j] := by simp [List.getD, List.getElem?_eq_getElem hj]
  rw [a1, a2] at h
  have hp := List.pairwise_iff_getElem.1 hn
  rcases Nat.lt_trichotomy i j with h1 | h1 | h1
  · exact absurd h (hp i j hi hj h1)
  · exact h1
  · exact absurd h.symm (hp j i hj hi h1)
theorem map_inj {α β : Type} {f : α → β} {l : List α} (hn : (l.map f).Nodup) {x y : α} (hx : x ∈ l) (hy : y ∈ l) (h : f x = f y) : x = y := by
  induction l with
  | nil => cases hx
  | cons z zs ih =>
    obtain ⟨h1, h2⟩ := List.nodup_cons.1 (by simpa using hn : (f z :: zs.map f).Nodup)
    rcases List.mem_cons.1 hx with e1 | e1 <;> rcases List.mem_cons.1 hy with e2 | e2
    · rw [e1, e2]
    · subst e1; exact absurd (List.mem_map.2 ⟨y, e2, h.symm⟩) h1
    · subst e2; exact absurd (List.mem_map.2 ⟨x, e1, h⟩) h1
    · exact ih h2 e1 e2
theorem at_all {s : Tb} {b : Nat} {e : En} (h : e ∈ s.at b) : e ∈ s.all := by
  unfold Tb.at at h
  rcases Nat.lt_or_ge b s.ch.length with h1 | h1
  · exact List.mem_flatten.2 ⟨_, getD_mem h1, h⟩
  · simp [List.getD, List.getElem?_eq_none h1] at h
theorem all_at {s : Tb} {e : En} (h : e ∈ s.all) : ∃ b, b < s.ch.length ∧ e ∈ s.at b := by
  obtain ⟨l, hl, he⟩ := List.mem_flatten.1 h
  obtain ⟨b, hb, rfl⟩ := List.getElem_of_mem hl
  exact ⟨b, hb, by simpa [Tb.at, List.getD, List.getElem?_eq_getElem hb] using he⟩
theorem head_cells {s : Tb} {b : Nat} (h : b < s.hd.length) : s.head b ∈ s.cells := by
  unfold Tb.cells Tb.head
  exact List.mem_append.2 (.inl (getD_mem h))
theorem all_cells {s : Tb} {c : Nat} (h : c ∈ s.all.map En.c) : c ∈ s.cells := List.mem_append.2 (.inr (List.mem_append.2 (.inl h)))
theorem sp_cells {s : Tb} {c : Nat} (h : c ∈ s.sp) : c ∈ s.cells := List.mem_append.2 (.inr (List.mem_append.2 (.inr h)))
theorem getD_lt {T : List Bool} {c : Nat} (h : T.getD c false = true) : c < T.length := by
  rcases Nat.lt_or_ge c T.length with h1 | h1
  · exact h1
  · simp [List.getD, List.getElem?_eq_none h1] at h
theorem getD_tf {T : List Bool} {c : Nat} (h : c < T.length) : T.getD c true = T.getD c false := by
  simp [List.getD, List.getElem?_eq_getElem h]

section
variable {s : Tb} {bk : ByteArray → Nat} {T : List Bool} {N : List Int} {u : Nat}

theorem Tb.inv.plc_cells (h : s.inv bk T N u) {b : Nat} (hb : b < s.hd.length) (i : Nat) : plc (s.head b) (s.at b) i ∈ s.cells := by
  rcases plc_mem (s.head b) (s.at b) i with h1 | h1
  · rw [h1]; exact head_cells hb
  · refine all_cells ?_
    obtain ⟨e, he, h2⟩ := List.mem_map.1 h1
    exact List.mem_map.2 ⟨e, at_all he, h2⟩
theorem Tb.inv.lt (h : s.inv bk T N u) {c : Nat} (hc : c ∈ s.cells) : c < N.length := by
  have := getD_lt (h.tk c hc)
  have := h.tl
  omega
theorem Tb.inv.sp_ne (h : s.inv bk T N u) {c : Nat} (hc : c ∈ s.sp) {b : Nat} (hb : b < s.hd.length) : c ≠ s.head b ∧ c ∉ (s.at b).map En.c := by
  have hn := h.nd
  unfold Tb.cells at hn
  rw [List.nodup_append] at hn
  obtain ⟨n1, n2, n3⟩ := hn
  rw [List.nodup_append] at n2
  refine ⟨fun e => n3 (s.head b) (getD_mem hb) c (List.mem_append.2 (.inr hc)) e.symm, fun hm => ?_⟩
  obtain ⟨e, he, h2⟩ := List.mem_map.1 hm
  exact n2.2.2 c (List.mem_map.2 ⟨e, at_all he, h2⟩) c hc rfl

theorem Tb.inv.taken (h : s.inv bk T N u) {c : Nat} (hc : T.getD c true = false) (hl : c < T.length) : ({ s with sp := s.sp ++ [c] } : Tb).inv bk (T.set c true) (N.set c 0) u := by
  have hf : c ∉ s.cells := fun hm => by
    have := h.tk c hm
    rw [getD_tf hl] at hc
    rw [hc] at this; cases this
  have ec : ({ s with sp := s.sp ++ [c] } : Tb).cells = s.cells ++ [c] := by simp [Tb.cells, Tb.all, List.append_assoc]
  have hne : ∀ b, b < s.hd.length → c ≠ s.head b ∧ c ∉ (s.at b).map En.c := fun b hb => ⟨fun e => hf (e ▸ head_cells hb), fun hm => hf (by
    obtain ⟨e, he, h2⟩ := List.mem_map.1 hm
    exact all_cells (List.mem_map.2 ⟨e, at_all he, h2⟩))⟩
  refine ⟨h.n1, h.len, ?_, fun x hx => ?_, ?_, by simpa using h.tl, fun b hb => (h.ln b hb).set (hne b hb).1 (hne b hb).2, fun x hx => ?_, h.key, h.one⟩
  · rw [ec, List.nodup_append]
    exact ⟨h.nd, by simp, fun a ha b hb e => by simp at hb; subst hb; exact hf (e ▸ ha)⟩
  · rw [ec] at hx
    rw [getD_set]
    by_cases e : x = c
    · rw [if_pos ⟨e, hl⟩]
    · rw [if_neg (fun q => e q.1)]
      rcases List.mem_append.1 hx with h1 | h1
      · exact h.tk x h1
      · simp at h1; exact absurd h1 e
  · rw [ec, count_on hl hc, h.cnt, List.length_append]
    simp; omega
  · rw [getD_set]
    split
    · rfl
    · rename_i hn
      rcases List.mem_append.1 hx with h1 | h1
      · exact h.z x h1
      · simp at h1
        exact absurd ⟨h1, by have := h.tl; omega⟩ hn

theorem filter_ne_perm {l : List Nat} {c : Nat} (hn : l.Nodup) (hc : c ∈ l) : l.Perm (c :: l.filter (fun x => !(x == c))) := by
  induction l with
  | nil => cases hc
  | cons x xs ih =>
    obtain ⟨h1, h2⟩ := List.nodup_cons.1 hn
    by_cases e : x = c
    · subst e
      have : (x :: xs).filter (fun y => !(y == x)) = xs := by
        rw [List.filter_cons_of_neg (by simp), List.filter_eq_self]
        intro y hy
        simp
        exact fun e => h1 (e ▸ hy)
      rw [this]
    · have hm : c ∈ xs := by
        rcases List.mem_cons.1 hc with h3 | h3
        · exact absurd h3.symm e
        · exact h3
      rw [List.filter_cons_of_pos (by simpa using e)]
      exact (List.Perm.cons x (ih h2 hm)).trans (List.Perm.swap c x _)

theorem flatten_set {e : En} : ∀ (ch : List (List En)) (b : Nat), b < ch.length → (ch.set b (ch.getD b [] ++ [e])).flatten.Perm (ch.flatten ++ [e])
  | [], b, h => absurd h (by simp)
  | l :: ls, 0, _ => by
    show ((l ++ [e]) ++ ls.flatten).Perm ((l ++ ls.flatten) ++ [e])
    rw [List.append_assoc, List.append_assoc]
    exact List.Perm.append_left l (List.perm_append_singleton e ls.flatten).symm
  | l :: ls, b + 1, h => by
    have := flatten_set (e := e) ls b (by simpa using h)
    simp only [List.set_cons_succ, List.flatten_cons, List.append_assoc]
    refine List.Perm.append_left l ?_
    simpa [List.getD] using this

theorem at_set {s : Tb} {b x : Nat} {l : List En} (hb : b < s.ch.length) : ({ s with ch := s.ch.set b l } : Tb).at x = if x = b then l else s.at x := by
  unfold Tb.at
  show (s.ch.set b l).getD x [] = _
  rw [getD_set]
  by_cases e : x = b
  · rw [if_pos ⟨e, hb⟩, if_pos e]
  · rw [if_neg (fun q => e q.1), if_neg e]

/-- The table with a key more, in a spare cell. -/
def Tb.linked (s : Tb) (b : Nat) (e : En) : Tb := { s with ch := s.ch.set b (s.at b ++ [e]), sp := s.sp.filter fun x => !(x == e.c) }
theorem linked_all {b : Nat} {e : En} (hb : b < s.ch.length) : (s.linked b e).all.Perm (s.all ++ [e]) := flatten_set s.ch b hb
theorem linked_at {b x : Nat} {e : En} (hb : b < s.ch.length) : (s.linked b e).at x = if x = b then s.at b ++ [e] else s.at x := at_set (s := s) hb

theorem Tb.inv.sp_nd (h : s.inv bk T N u) : s.sp.Nodup := by
  have hn := h.nd
  unfold Tb.cells at hn
  exact (List.nodup_append.1 (List.nodup_append.1 hn).2.1).2.1

theorem Tb.inv.linked (h : s.inv bk T N u) {b : Nat} (hb : b < s.hd.length) {e : En} (hc : e.c ∈ s.sp) (hk : bk e.k = b ∧ 1 ≤ e.k.size ∧ e.k.size ≤ 16) (hno : ∀ x ∈ s.at b, x.k ≠ e.k) :
    (s.linked b e).inv bk T (N.set (plc (s.head b) (s.at b) (s.at b).length) ((e.c : Int) + 1)) u := by
  have hb2 : b < s.ch.length := by rw [h.len]; exact hb
  have hp : (s.linked b e).cells.Perm s.cells := by
    unfold Tb.cells
    refine List.Perm.append_left _ ?_
    have h1 := (linked_all (s := s) (e := e) hb2).map En.c
    refine (List.Perm.append_right _ h1).trans ?_
    rw [List.map_append, List.append_assoc]
    exact List.Perm.append_left _ (filter_ne_perm h.sp_nd hc).symm
  have hmem : ∀ x, x ∈ (s.linked b e).cells ↔ x ∈ s.cells := fun x => hp.mem_iff
  obtain ⟨q, hq⟩ : ∃ q, q = plc (s.head b) (s.at b) (s.at b).length := ⟨_, rfl⟩
  have hqc : q ∈ s.cells := hq ▸ h.plc_cells hb _
  have hsn := h.sp_ne hc hb
  refine ⟨h.n1, by simpa [Tb.linked] using h.len, hp.nodup_iff.2 h.nd, fun x hx => h.tk x ((hmem x).1 hx), by rw [h.cnt, hp.length_eq], by simpa using h.tl, fun x hx => ?_, fun x hx => ?_, fun x hx y hy => ?_, fun x hx => ?_⟩
  · rw [linked_at hb2]
    show Lk _ (s.head x) _
    by_cases ex : x = b
    · subst ex
      rw [if_pos rfl]
      refine (h.ln x hx).snoc (h.z _ hc) ?_ (h.lt (h.plc_cells hb _))
      -- no cell twice
      have hn := h.nd
      unfold Tb.cells at hn
      obtain ⟨n1, n2, n3⟩ := List.nodup_append.1 hn
      obtain ⟨m1, m2, m3⟩ := List.nodup_append.1 n2
      have hsub : ((s.at x).map En.c).Sublist (s.all.map En.c) := by
        refine List.Sublist.map _ ?_
        unfold Tb.at Tb.all
        have : s.ch.getD x [] ∈ s.ch := getD_mem hb2
        exact List.sublist_flatten_of_mem this
      rw [List.nodup_cons, List.mem_append, not_or]
      refine ⟨⟨fun hm => ?_, fun hm => ?_⟩, ?_⟩
      · exact n3 (s.head x) (getD_mem hx) (s.head x) (List.mem_append.2 (.inl (hsub.subset hm))) rfl
      · simp at hm; exact hsn.1 hm.symm
      · rw [List.nodup_append]
        refine ⟨m1.sublist hsub, by simp, fun a ha c hc2 e2 => ?_⟩
        simp at hc2
        subst hc2
        exact hsn.2 (e2 ▸ ha)
    · rw [if_neg ex]
      have hnd := h.nd
      -- the last cell of another chain is no cell of this one
      have hne : q ≠ s.head x ∧ q ∉ (s.at x).map En.c := by
        unfold Tb.cells at hnd
        obtain ⟨n1, n2, n3⟩ := List.nodup_append.1 hnd
        obtain ⟨m1, m2, m3⟩ := List.nodup_append.1 n2
        have hin : ∀ y, (y = s.head b ∨ y ∈ (s.at b).map En.c) → (y ≠ s.head x ∧ y ∉ (s.at x).map En.c) := by
          rintro y (e1 | e1)
          · refine ⟨fun e2 => ex ?_, fun e2 => ?_⟩
            · rw [e1] at e2
              exact (getD_inj n1 hb hx e2).symm
            · obtain ⟨z, hz, h2⟩ := List.mem_map.1 e2
              exact n3 (s.head b) (getD_mem hb) y (List.mem_append.2 (.inl (List.mem_map.2 ⟨z, at_all hz, h2⟩))) e1.symm
          · obtain ⟨z, hz, h2⟩ := List.mem_map.1 e1
            refine ⟨fun e2 => n3 (s.head x) (getD_mem hx) y (List.mem_append.2 (.inl (List.mem_map.2 ⟨z, at_all hz, h2⟩))) e2.symm, fun e2 => ?_⟩
            obtain ⟨z2, hz2, h3⟩ := List.mem_map.1 e2
            -- two chains share no cell: keys tell the buckets apart, cells are once
            have hinj : z = z2 := map_inj m1 (at_all hz) (at_all hz2) (h2.trans h3.symm)
            subst hinj
            have k1 := (h.key b hb z hz).1
            have k2 := (h.key x hx z hz2).1
            omega
        exact hin q (by rcases plc_mem (s.head b) (s.at b) (s.at b).length with e1 | e1 <;> rw [← hq] at e1 <;> simp [e1])
      rw [← hq]
      exact (h.ln x hx).set hne.1 hne.2
  · have hx2 := List.mem_filter.1 hx
    have hxs : x ∈ s.sp := hx2.1
    rw [getD_set, if_neg]
    · exact h.z x hxs
    · rintro ⟨e1, -⟩
      have := h.sp_ne hxs hb
      rcases plc_mem (s.head b) (s.at b) (s.at b).length with e2 | e2
      · exact this.1 (e1.trans e2)
      · exact this.2 (e1 ▸ e2)
  · rw [linked_at hb2] at hy
    by_cases ex : x = b
    · rw [if_pos ex] at hy
      rcases List.mem_append.1 hy with h1 | h1
      · exact ex ▸ h.key b hb y h1
      · simp at h1; subst h1; exact ex ▸ hk
    · rw [if_neg ex] at hy
      exact h.key x hx y hy
  · rw [linked_at hb2]
    by_cases ex : x = b
    · rw [if_pos ex, List.map_append, List.nodup_append]
      refine ⟨h.one b hb, by simp, fun a ha c hc2 e2 => ?_⟩
      simp at hc2
      obtain ⟨z, hz, h2⟩ := List.mem_map.1 ha
      exact hno z hz (h2.trans (e2.trans hc2))
    · rw [if_neg ex]
      exact h.one x hx

/-- The table with a spare cell less. -/
def Tb.given (s : Tb) (c : Nat) : Tb := { s with sp := s.sp.filter fun x => !(x == c) }
theorem Tb.inv.given (h : s.inv bk T N u) {c : Nat} (hc : c ∈ s.sp) : (s.given c).inv bk (T.set c false) N u := by
  have hp : (c :: (s.given c).cells).Perm s.cells := by
    unfold Tb.cells
    show (c :: (s.hd ++ (s.all.map En.c ++ s.sp.filter fun x => !(x == c)))).Perm _
    have h1 := filter_ne_perm h.sp_nd hc
    refine List.Perm.trans ?_ (List.Perm.append_left s.hd (List.Perm.append_left (s.all.map En.c) h1.symm))
    rw [← List.append_assoc, ← List.append_assoc]
    exact List.perm_middle.symm
  have hnd : (c :: (s.given c).cells).Nodup := hp.nodup_iff.2 h.nd
  obtain ⟨d1, d2⟩ := List.nodup_cons.1 hnd
  have hct := h.tk c (sp_cells hc)
  have hcl := getD_lt hct
  refine ⟨h.n1, h.len, d2, fun x hx => ?_, ?_, by simpa using h.tl, h.ln, fun x hx => h.z x (List.mem_filter.1 hx).1, h.key, h.one⟩
  · rw [getD_set, if_neg (show ¬ (x = c ∧ c < T.length) from fun q => d1 (by obtain ⟨q1, -⟩ := q; subst q1; exact hx))]
    exact h.tk x (hp.mem_iff.1 (List.mem_cons_of_mem _ hx))
  · have h1 := count_off hcl (by rw [getD_tf hcl]; exact hct)
    have h2 := hp.length_eq
    simp at h2
    have := h.cnt
    omega
end
end Go.Proofs.YtbpihkojmbfccaaDoor
