/-
  Sm4: The operations in memory; what the loop of 'together' holds.
  Sm5: What the loop of 'together' holds, turn by turn.
-/
import Derived.Test.YtopihgdbfhiejaaDoorSm0
set_option linter.unusedVariables false
set_option linter.unusedSimpArgs false
namespace Go.Proofs.YtopihgdbfhiejaaDoor

section
open Go.RowKit Go.Maps

/-- How many asks of a worker are still to be begun. -/
def rem (xs : List AskR) (a w : Nat) : Nat := ((xs.drop a).filter fun x => wkr x == w).length
theorem rem_pass {xs : List AskR} {a w : Nat} {x : AskR} (h : xs[a]? = some x) (hn : wkr x ≠ w) : rem xs (a + 1) w = rem xs a w := by
  have hl := (List.getElem?_eq_some_iff.1 h).1
  have he : xs[a] = x := by rw [List.getElem?_eq_getElem hl] at h; exact Option.some.inj h
  unfold rem
  rw [List.drop_eq_getElem_cons hl, he, List.filter_cons_of_neg (by simpa using hn)]
theorem rem_take {xs : List AskR} {a w : Nat} {x : AskR} (h : xs[a]? = some x) (hn : wkr x = w) : rem xs a w = rem xs (a + 1) w + 1 := by
  have hl := (List.getElem?_eq_some_iff.1 h).1
  have he : xs[a] = x := by rw [List.getElem?_eq_getElem hl] at h; exact Option.some.inj h
  unfold rem
  rw [List.drop_eq_getElem_cons hl, he, List.filter_cons_of_pos (by simpa using hn), List.length_cons]
theorem rem_end (xs : List AskR) (w : Nat) : rem xs xs.length w = 0 := by unfold rem; simp
theorem rem_le (xs : List AskR) (a w : Nat) : rem xs a w ≤ xs.length := by
  unfold rem
  have := List.length_filter_le (fun x : AskR => wkr x == w) (xs.drop a)
  simp only [List.length_drop] at this
  omega
theorem rem_all (xs : List AskR) : rem xs 0 0 + rem xs 0 1 + rem xs 0 2 + rem xs 0 3 = xs.length := by
  unfold rem
  rw [List.drop_zero]
  induction xs with
  | nil => rfl
  | cons x xs ih =>
    have hl := wkr_lt x
    simp only [List.filter_cons, List.length_cons]
    rcases (show wkr x = 0 ∨ wkr x = 1 ∨ wkr x = 2 ∨ wkr x = 3 by omega) with h | h | h | h <;> (rw [h]; simp; omega)

def finI : Option Nat → Int
  | none => -1
  | some t => (t : Int)
def Un.cells (u : Un) : List Value := [.int .i64 u.x.w, .int .i64 u.x.kind, .string u.x.key, .int .i64 u.x.ref, .int .i64 u.x.h, .pointer (some ⟨u.b, 0, none⟩), .int .i64 (u.beg : Int), .int .i64 (finI u.fin)]
def ov (o : Option Nat) : Value := .int .i64 (finI o)
/-- A row of four numbers. -/
def Ib4 (w : World) (b : Nat) (l : List Value) : Prop := w.heap[b]? = some (.cells l.toArray 3 (0, 0))
theorem Ib4.cell {w : World} {b : Nat} {l : List Value} (h : Ib4 w b l) (i : Nat) : w.cell? ⟨b, i, none⟩ = l[i]? := by
  unfold Ib4 at h
  rw [Go.Joins.cell_of_block h]
  simp
theorem Ib4.set {w : World} {b : Nat} {l : List Value} (h : Ib4 w b l) (i : Nat) (v : Value) : Ib4 (w.setCell ⟨b, i, none⟩ v) b (l.set i v) := by
  unfold Ib4 at *
  rw [Go.Joins.block_setCell h]
  simp
theorem flat8 (l : List Un) (i j : Nat) (u : Un) (hi : l[i]? = some u) (hj : j < 8) : (l.flatMap Un.cells)[i * 8 + j]? = u.cells[j]? := by
  induction l generalizing i with
  | nil => simp at hi
  | cons y ys ih =>
    rw [List.flatMap_cons]
    cases i with
    | zero =>
      simp at hi; subst hi
      rw [List.getElem?_append_left (by show 0 * 8 + j < 8; omega), Nat.zero_mul, Nat.zero_add]
    | succ i =>
      rw [List.getElem?_append_right (by show 8 ≤ _; omega)]
      rw [show (i + 1) * 8 + j - y.cells.length = i * 8 + j by show _ - 8 = _; omega]
      exact ih i (by simpa using hi)
theorem flat_o (l : List Un) (j : Nat) (u : Un) (o' : Opm) (B' : Nat → Prop) (cv' : Value) (hj : l[j]? = some u) : (l.set j { u with o := o', B := B', cv := cv' }).flatMap Un.cells = l.flatMap Un.cells := by
  induction l generalizing j with
  | nil => simp at hj
  | cons y ys ih =>
    cases j with
    | zero => simp at hj; subst hj; rfl
    | succ j =>
      rw [List.set_cons_succ, List.flatMap_cons, List.flatMap_cons, ih j (by simpa using hj)]
theorem flat_fin (l : List Un) (j : Nat) (u : Un) (f : Option Nat) (hj : l[j]? = some u) : (l.flatMap Un.cells).set (j * 8 + 7) (.int .i64 (finI f)) = (l.set j { u with fin := f }).flatMap Un.cells := by
  induction l generalizing j with
  | nil => simp at hj
  | cons y ys ih =>
    cases j with
    | zero =>
      simp at hj; subst hj
      rw [List.set_cons_zero, List.flatMap_cons, List.flatMap_cons, List.set_append]
      rw [if_pos (by show 0 * 8 + 7 < 8; omega)]
      rfl
    | succ j =>
      rw [List.set_cons_succ, List.flatMap_cons, List.flatMap_cons, List.set_append, if_neg (by show ¬ (j + 1) * 8 + 7 < 8; omega)]
      rw [show (j + 1) * 8 + 7 - y.cells.length = j * 8 + 7 by show _ - 8 = _; omega, ih j (by simpa using hj)]

/-- The operations in memory. -/
structure Tm (w wr : World) (lb d M : Nat) (K : Nat → Prop) (s : Sl) (l : List Un) (v : Value) (ab nb : Nat) (at4 : List Nat) (now4 : List (Option Nat)) : Prop where
  ht : LT wr K lb d 600 M s
  row : wr.ownsRow w.heap.size 56 8 v l.length (l.flatMap Un.cells)
  ops : ∀ u ∈ l, Ob wr u.B u.b lb u.cv u.o
  db : ∀ (i j : Nat) (u x : Un), l[i]? = some u → l[j]? = some x → i ≠ j → ∀ k, u.B k → ¬ x.B k
  kb : ∀ j, K j → w.heap.size ≤ j
  ko : ∀ u ∈ l, ∀ j, u.B j → ¬ K j ∧ w.heap.size ≤ j ∧ v.ownBlock ≠ some j ∧ j ≠ ab ∧ j ≠ nb
  kv : ∀ j, v.ownBlock = some j → ¬ K j ∧ j ≠ ab ∧ j ≠ nb
  atb : Ib4 wr ab (at4.map nv)
  nowb : Ib4 wr nb (now4.map ov)
  la : at4.length = 4 ∧ now4.length = 4
  ka : ¬ K ab ∧ ¬ K nb ∧ ab ≠ nb ∧ w.heap.size ≤ ab ∧ w.heap.size ≤ nb
  bl : Below w.heap.size w wr
  b0 : 0 < w.heap.size

section
variable {w wr w1 w2 w4 w' : World} {lb d M : Nat} {K : Nat → Prop} {s : Sl} {l : List Un} {v v' : Value} {ab nb : Nat} {at4 : List Nat} {now4 : List (Option Nat)}
/-- What is done elsewhere. -/
theorem Tm.keep {G : Nat → Prop} (h : Tm w wr lb d M K s l v ab nb at4 now4) (k : Fr G wr w') (h1 : ∀ j, K j → ¬ G j) (h2 : ∀ j, v.ownBlock = some j → ¬ G j) (h3 : ∀ u ∈ l, ∀ j, u.B j → ¬ G j) (h4 : ¬ G ab ∧ ¬ G nb) (h5 : ∀ j, j < w.heap.size → ¬ G j) : Tm w w' lb d M K s l v ab nb at4 now4 :=
  ⟨h.ht.keep k h1 (h5 0 h.b0), hrow_fr h.row k h2, fun u hu => (h.ops u hu).keep k (h3 u hu), h.db, h.kb, h.ko, h.kv, (k.block ab (Array.getElem?_eq_some_iff.1 h.atb).1 h4.1).trans h.atb, (k.block nb (Array.getElem?_eq_some_iff.1 h.nowb).1 h4.2).trans h.nowb, h.la, h.ka, h.bl.trans (k.to h5 h.bl.size), h.b0⟩
theorem Tm.below (h : Tm w wr lb d M K s l v ab nb at4 now4) (hb : Below wr.heap.size wr w') : Tm w w' lb d M K s l v ab nb at4 now4 :=
  h.keep (Fr.below (F := fun _ => False) hb) (fun _ _ => id) (fun _ _ => id) (fun _ _ _ _ => id) ⟨id, id⟩ (fun _ _ => id)
theorem Tm.setAt (h : Tm w wr lb d M K s l v ab nb at4 now4) (i k : Nat) : Tm w (wr.setCell ⟨ab, i, none⟩ (.int .i64 (k : Int))) lb d M K s l v ab nb (at4.set i k) now4 := by
  have hF : Fr (fun j => j = ab) wr (wr.setCell ⟨ab, i, none⟩ (.int .i64 (k : Int))) := Fr.setCell (p := ⟨ab, i, none⟩) (Fr.refl (fun j => j = ab) wr) (.inl rfl) _
  refine ⟨h.ht.keep hF (fun j hj e => h.ka.1 (e ▸ hj)) (fun e => by have := h.ka.2.2.2.1; have := h.b0; omega), hrow_fr h.row hF (fun j e q => (h.kv j e).2.1 q), fun u hu => (h.ops u hu).keep hF (fun j hj q => (h.ko u hu j hj).2.2.2.1 q), h.db, h.kb, h.ko, h.kv, ?_, (hF.block nb (Array.getElem?_eq_some_iff.1 h.nowb).1 (fun e => h.ka.2.2.1 e.symm)).trans h.nowb, ⟨by simpa using h.la.1, h.la.2⟩, h.ka, h.bl.trans (hF.to (fun j hj e => by have := h.ka.2.2.2.1; omega) h.bl.size), h.b0⟩
  rw [List.map_set]
  exact h.atb.set i _
theorem Tm.setNow (h : Tm w wr lb d M K s l v ab nb at4 now4) (i : Nat) (o : Option Nat) : Tm w (wr.setCell ⟨nb, i, none⟩ (ov o)) lb d M K s l v ab nb at4 (now4.set i o) := by
  have hF : Fr (fun j => j = nb) wr (wr.setCell ⟨nb, i, none⟩ (ov o)) := Fr.setCell (p := ⟨nb, i, none⟩) (Fr.refl (fun j => j = nb) wr) (.inl rfl) _
  refine ⟨h.ht.keep hF (fun j hj e => h.ka.2.1 (e ▸ hj)) (fun e => by have := h.ka.2.2.2.2; have := h.b0; omega), hrow_fr h.row hF (fun j e q => (h.kv j e).2.2 q), fun u hu => (h.ops u hu).keep hF (fun j hj q => (h.ko u hu j hj).2.2.2.2 q), h.db, h.kb, h.ko, h.kv, (hF.block ab (Array.getElem?_eq_some_iff.1 h.atb).1 h.ka.2.2.1).trans h.atb, ?_, ⟨h.la.1, by simpa using h.la.2⟩, h.ka, h.bl.trans (hF.to (fun j hj e => by have := h.ka.2.2.2.2; omega) h.bl.size), h.b0⟩
  rw [List.map_set]
  exact h.nowb.set i _
theorem Tm.upM {M' : Nat} (h : Tm w wr lb d M K s l v ab nb at4 now4) (hM : M ≤ M') : Tm w wr lb d M' K s l v ab nb at4 now4 :=
  ⟨h.ht.up hM, h.row, h.ops, h.db, h.kb, h.ko, h.kv, h.atb, h.nowb, h.la, h.ka, h.bl, h.b0⟩
theorem Tm.pushed (h : Tm w w1 lb d M K s l v ab nb at4 now4) {u : Un} (hb : Below w1.heap.size w1 w2) (ho : Ob w2 u.B u.b lb u.cv u.o) (hB : ∀ j, u.B j → w1.heap.size ≤ j) (hF : Fr (fun j => v.ownBlock = some j) w2 w4) (hr : w4.ownsRow w.heap.size 56 8 v' (l.length + 1) (l.flatMap Un.cells ++ u.cells)) (hv : ∀ j, v'.ownBlock = some j → v.ownBlock = some j ∨ w2.heap.size ≤ j) :
    Tm w w4 lb d M K s (l ++ [u]) v' ab nb at4 now4 := by
  have h2 := h.below hb
  have hs1 := h.bl.size
  have hs2 := hb.size
  have hkl := h.ht.kl
  have abl := (Array.getElem?_eq_some_iff.1 h.atb).1
  have nbl := (Array.getElem?_eq_some_iff.1 h.nowb).1
  have hvl : ∀ j, v.ownBlock = some j → w.heap.size ≤ j ∧ j < w1.heap.size := fun j e => World.ownsRow.lt h.row j e
  have hbl : ∀ x ∈ l, ∀ j, x.B j → j < w1.heap.size := fun x hx => (h.ops x hx).kl
  have hget : ∀ j x, (l ++ [u])[j]? = some x → l[j]? = some x ∨ (j = l.length ∧ x = u) := fun j x hj => by
    rw [List.getElem?_append] at hj
    split at hj
    · exact .inl hj
    · rename_i hlt
      have : j - l.length = 0 := by
        rcases Nat.eq_zero_or_pos (j - l.length) with q | q
        · exact q
        · rw [List.getElem?_eq_none (by simp; omega)] at hj; cases hj
      rw [this] at hj
      simp at hj
      exact .inr ⟨by omega, hj.symm⟩
  refine ⟨h2.ht.keep hF (fun j hj e => (h.kv j e).1 hj) (fun e => by have := (hvl 0 e).1; have := h.b0; omega), ?_, fun x hx => ?_, fun i j x y hi hj hne k hk hy => ?_, h.kb, fun x hx j hj => ?_, fun j e => ?_, (hF.block ab (Array.getElem?_eq_some_iff.1 h2.atb).1 (fun e => (h.kv ab e).2.1 rfl)).trans h2.atb, (hF.block nb (Array.getElem?_eq_some_iff.1 h2.nowb).1 (fun e => (h.kv nb e).2.2 rfl)).trans h2.nowb, h.la, h.ka, h2.bl.trans (hF.to (fun j hj e => by have := (hvl j e).1; omega) h2.bl.size), h.b0⟩
  · rw [List.length_append, List.length_singleton, List.flatMap_append, List.flatMap_singleton]
    exact hr
  · rcases List.mem_append.1 hx with q | q
    · exact (h2.ops x q).keep hF (fun j hj e => (h.ko x q j hj).2.2.1 e)
    · simp at q; subst q
      exact ho.keep hF (fun j hj e => by have := (hvl _ e).2; have := hB j hj; omega)
  · rcases hget i x hi with q | ⟨q1, q2⟩ <;> rcases hget j y hj with r | ⟨r1, r2⟩
    · exact h.db i j x y q r hne k hk hy
    · rw [r2] at hy
      have := hB k hy
      have := hbl x (List.mem_of_getElem? q) k hk
      omega
    · rw [q2] at hk
      have := hB k hk
      have := hbl y (List.mem_of_getElem? r) k hy
      omega
    · omega
  · rcases List.mem_append.1 hx with q | q
    · obtain ⟨a1, a2, a3, a4, a5⟩ := h.ko x q j hj
      refine ⟨a1, a2, fun e => ?_, a4, a5⟩
      rcases hv j e with r | r
      · exact a3 r
      · have := hbl x q j hj; omega
    · simp at q; subst q
      have hj1 := hB j hj
      have hj2 := ho.kl j hj
      refine ⟨fun e => by have := hkl _ e; omega, by omega, fun e => ?_, by omega, by omega⟩
      rcases hv j e with r | r
      · have := (hvl j r).2; omega
      · omega
  · rcases hv j e with q2 | q2
    · exact h.kv j q2
    · exact ⟨fun q => by have := hkl j q; omega, by omega, by omega⟩

/-- One has gone on, and is not done. -/
theorem Tm.went {j : Nat} {u : Un} {o' : Opm} {s' : Sl} {K' B' : Nat → Prop} {cv' : Value} {M' : Nat} (h : Tm w wr lb d M K s l v ab nb at4 now4) (hj : l[j]? = some u) (hH : LT w1 K' lb d 600 M' s') (ho : Ob w1 B' u.b lb cv' o') (hN : Nx wr w1 K u.B K' B') :
    Tm w w1 lb d M' K' s' (l.set j { u with o := o', B := B', cv := cv' }) v ab nb at4 now4 := by
  have hu := List.mem_of_getElem? hj
  have hs1 := h.bl.size
  have hF := hN.fr
  have hbl : ∀ x ∈ l, ∀ k, x.B k → k < wr.heap.size := fun x hx => (h.ops x hx).kl
  have abl := (Array.getElem?_eq_some_iff.1 h.atb).1
  have nbl := (Array.getElem?_eq_some_iff.1 h.nowb).1
  have hvl : ∀ j, v.ownBlock = some j → w.heap.size ≤ j ∧ j < wr.heap.size := fun j e => World.ownsRow.lt h.row j e
  have hab : ¬ (K ab ∨ u.B ab) := fun q => q.elim h.ka.1 (fun q => (h.ko u hu ab q).2.2.2.1 rfl)
  have hnb : ¬ (K nb ∨ u.B nb) := fun q => q.elim h.ka.2.1 (fun q => (h.ko u hu nb q).2.2.2.2 rfl)
  refine ⟨hH, ?_, fun x hx => ?_, fun i1 i2 x y h1 h2 hne k hk hy => ?_, fun j2 hj2 => ?_, fun x hx j2 hj2 => ?_, fun j2 e => ?_, (hF.block ab abl hab).trans h.atb, (hF.block nb nbl hnb).trans h.nowb, h.la, ?_, h.bl.trans (hF.to (fun j2 hj2 q => ?_) hs1), h.b0⟩
  · rw [List.length_set, flat_o l j u o' B' cv' hj]
    exact hrow_fr h.row hF (fun j2 e q => q.elim (h.kv j2 e).1 (fun q => (h.ko u hu j2 q).2.2.1 e))
  · rcases set_mem hj hx with e | ⟨i, hi, h1⟩
    · rw [e]; exact ho
    · have hxl := List.mem_of_getElem? h1
      exact (h.ops x hxl).keep hF (fun k hk q => q.elim (h.ko x hxl k hk).1 (fun q => h.db i j x u h1 hj hi k hk q))
  · rcases set_get hj h1 with ⟨e1, e2⟩ | ⟨e1, e2⟩ <;> rcases set_get hj h2 with ⟨e3, e4⟩ | ⟨e3, e4⟩
    · omega
    · rw [e2] at hk
      have hkl := hbl y (List.mem_of_getElem? e4) k hy
      exact h.db j i2 u y hj e4 (fun c => e3 c.symm) k ((hN.b k hkl).1 hk) hy
    · rw [e4] at hy
      have hkl := hbl x (List.mem_of_getElem? e2) k hk
      exact h.db i1 j x u e2 hj e1 k hk ((hN.b k hkl).1 hy)
    · exact h.db i1 i2 x y e2 e4 hne k hk hy
  · rcases Nat.lt_or_ge j2 wr.heap.size with q | q
    · exact h.kb j2 ((hN.k j2 q).1 hj2)
    · omega
  · rcases set_mem hj hx with e | ⟨i, hi, h1⟩
    · rw [e] at hj2
      have hj2' : B' j2 := hj2
      rcases Nat.lt_or_ge j2 wr.heap.size with q | q
      · obtain ⟨a1, a2⟩ := h.ko u hu j2 ((hN.b j2 q).1 hj2')
        exact ⟨fun c => a1 ((hN.k j2 q).1 c), a2⟩
      · refine ⟨fun c => hN.ap j2 c hj2', by omega, fun c => by have := (hvl j2 c).2; omega, by omega, by omega⟩
    · have hxl := List.mem_of_getElem? h1
      obtain ⟨a1, a2⟩ := h.ko x hxl j2 hj2
      exact ⟨fun c => a1 ((hN.k j2 (hbl x hxl j2 hj2)).1 c), a2⟩
  · obtain ⟨a1, a2⟩ := h.kv j2 e
    exact ⟨fun c => a1 ((hN.k j2 (hvl j2 e).2).1 c), a2⟩
  · exact ⟨fun q => h.ka.1 ((hN.k ab abl).1 q), fun q => h.ka.2.1 ((hN.k nb nbl).1 q), h.ka.2.2⟩
  · rcases q with q | q
    · have := h.kb j2 q; omega
    · have := (h.ko u hu j2 q).2.1; omega

/-- It is written down when one was done. -/
theorem Tm.ended {j : Nat} {u : Un} {g cap n : Nat} (h : Tm w wr lb d M K s l (.slice (some ⟨g, 0, none⟩) n cap) ab nb at4 now4) (hn : n = l.length) (hj : l[j]? = some u) (f : Option Nat) :
    Tm w (wr.setCell ⟨g, j * 8 + 7, none⟩ (.int .i64 (finI f))) lb d M K s (l.set j { u with fin := f }) (.slice (some ⟨g, 0, none⟩) n cap) ab nb at4 now4 := by
  subst hn
  have hF : Fr (fun j => j = g) wr (wr.setCell ⟨g, j * 8 + 7, none⟩ (.int .i64 (finI f))) := Fr.setCell (p := ⟨g, j * 8 + 7, none⟩) (Fr.refl (fun j => j = g) wr) (.inl rfl) _
  have hg := World.ownsRow.lt h.row g rfl
  have hmem : ∀ x ∈ l.set j { u with fin := f }, ∃ y ∈ l, y.b = x.b ∧ y.o = x.o ∧ y.B = x.B ∧ y.cv = x.cv := fun x hx => by
    rcases set_mem hj hx with e | ⟨i, hi, h1⟩
    · exact ⟨u, List.mem_of_getElem? hj, by rw [e], by rw [e], by rw [e], by rw [e]⟩
    · exact ⟨x, List.mem_of_getElem? h1, rfl, rfl, rfl, rfl⟩
  have hgetB : ∀ (i : Nat) (x : Un), (l.set j { u with fin := f })[i]? = some x → ∃ y : Un, l[i]? = some y ∧ y.B = x.B := fun i x hi => by
    rcases set_get hj hi with ⟨e1, e2⟩ | ⟨e1, e2⟩
    · exact ⟨u, by rw [e1]; exact hj, by rw [e2]⟩
    · exact ⟨x, e2, rfl⟩
  refine ⟨h.ht.keep hF (fun j2 hj2 e => (h.kv j2 (by rw [e]; rfl)).1 hj2) (fun e => by have := hg.1; have := h.b0; omega), ?_, fun x hx => ?_, fun i1 i2 x y h1 h2 hne k hk hy => ?_, h.kb, fun x hx j2 hj2 => ?_, h.kv, (hF.block ab (Array.getElem?_eq_some_iff.1 h.atb).1 (fun e => (h.kv ab (by rw [e]; rfl)).2.1 rfl)).trans h.atb, (hF.block nb (Array.getElem?_eq_some_iff.1 h.nowb).1 (fun e => (h.kv nb (by rw [e]; rfl)).2.2 rfl)).trans h.nowb, h.la, h.ka, h.bl.trans (hF.to (fun j2 hj2 e => by have := hg.1; omega) h.bl.size), h.b0⟩
  · have := World.ownsRow.stored h.row (j * 8 + 7) (.int .i64 (finI f))
    rw [flat_fin l j u f hj] at this
    rw [List.length_set]
    exact this.1
  · obtain ⟨y, hy, e1, e2, e3, e4⟩ := hmem x hx
    rw [← e1, ← e2, ← e3, ← e4]
    exact (h.ops y hy).keep hF (fun k hk e => (h.ko y hy k hk).2.2.1 (by rw [e]; rfl))
  · obtain ⟨x1, q1, q2⟩ := hgetB i1 x h1
    obtain ⟨y1, r1, r2⟩ := hgetB i2 y h2
    rw [← q2] at hk
    rw [← r2] at hy
    exact h.db i1 i2 x1 y1 q1 r1 hne k hk hy
  · obtain ⟨y, hy, e1, e2, e3, e4⟩ := hmem x hx
    rw [← e3] at hj2
    exact h.ko y hy j2 hj2
theorem getD4 {α : Type} {l : List α} (h : l.length = 4) {q q2 : Nat} (hq : q < 4) (x z : α) : (l.set q x).getD q2 z = if q2 = q then x else l.getD q2 z := by
  rw [getD_set]
  by_cases e : q2 = q
  · rw [if_pos ⟨e, by omega⟩, if_pos e]
  · rw [if_neg (fun c => e c.1), if_neg e]
end
end

section
open Go.RowKit Go.Maps

def curr (s : Sl) (l : List Un) (o : Option Nat) : Nat :=
  match o with
  | none => 0
  | some j => match l[j]? with
    | none => 0
    | some u => cur s u.o
/-- At most so many turns of a worker are to come. -/
def mu (xs : List AskR) (s : Sl) (l : List Un) (at4 : List Nat) (now4 : List (Option Nat)) (q : Nat) : Nat :=
  if rem xs (at4.getD q 0) q = 0 ∧ now4.getD q none = none then 0 else rem xs (at4.getD q 0) q * (9 * xs.length + 41) + (8 * (xs.length + 1) - lks s) * (9 * xs.length + 40) + curr s l (now4.getD q none)
def MuOk (f : Nat → Nat) (Kc P i : Nat) : Prop := ∀ q, q < 4 → f q ≤ Kc ∧ (P ≤ i → f q + (i + 3 - q) / 4 ≤ Kc + (P + 3 - q) / 4 ∨ f q = 0)
theorem MuOk.turn {f g : Nat → Nat} {Kc P i q0 : Nat} (h : MuOk f Kc P i) (hq : q0 < 4) (hP : P ≤ i → q0 = i % 4) (h0 : g q0 + 1 ≤ f q0 ∨ g q0 = 0) (ho : ∀ q, q < 4 → q ≠ q0 → g q ≤ f q) : MuOk g Kc P (i + 1) := by
  intro q hq4
  obtain ⟨h1, h2⟩ := h q hq4
  by_cases e : q = q0
  · subst e
    refine ⟨by omega, fun hp => ?_⟩
    rcases Nat.lt_or_ge i P with hlt | hge
    · left; have : i + 1 = P := by omega
      rw [this]; omega
    · have hm := hP hge
      rcases h0 with h0 | h0
      · rcases h2 hge with h3 | h3
        · left; omega
        · omega
      · exact .inr h0
  · have h3 := ho q hq4 e
    refine ⟨by omega, fun hp => ?_⟩
    rcases Nat.lt_or_ge i P with hlt | hge
    · left; have : i + 1 = P := by omega
      rw [this]; omega
    · have hm := hP hge
      rcases h2 hge with h4 | h4
      · left
        have : ¬ i % 4 = q := by omega
        omega
      · right; omega
theorem MuOk.start {f : Nat → Nat} {Kc P : Nat} (h : ∀ q, q < 4 → f q ≤ Kc) : MuOk f Kc P 0 := by
  intro q hq
  refine ⟨h q hq, fun hp => .inl ?_⟩
  have h1 : P = 0 := by omega
  rw [h1]
  have := h q hq
  omega
theorem MuOk.fin {f : Nat → Nat} {Kc P : Nat} (h : MuOk f Kc P (P + 4 * Kc)) : ∀ q, q < 4 → f q = 0 := fun q hq => by
  rcases (h q hq).2 (by omega) with h1 | h1
  · omega
  · exact h1
def KC (n : Nat) : Nat := (n + 1) * (8 * n + 1) * (n + 32)
theorem KC_le : ∀ n : Nat, n ≤ 40 → n * (9 * n + 41) + (8 * (n + 1) - 8) * (9 * n + 40) ≤ KC n := by decide

/-- The loop's state at time i. -/
structure Tl (w wr : World) (lb d : Nat) (xs : List AskR) (P i : Nat) (K : Nat → Prop) (s : Sl) (l : List Un) (v : Value) (ab nb : Nat) (at4 : List Nat) (now4 : List (Option Nat)) : Prop where
  tm : Tm w wr lb d i K s l v ab nb at4 now4
  ti : Ti s l (fun q => now4.getD q none) i
  al : ∀ q, q < 4 → at4.getD q 0 ≤ xs.length
  cnt : l.length + (rem xs (at4.getD 0 0) 0 + rem xs (at4.getD 1 0) 1 + rem xs (at4.getD 2 0) 2 + rem xs (at4.getD 3 0) 3) = xs.length
  lt : ∀ u ∈ l, ∀ b, u.fin = some b → b < i
  ls : 8 ≤ lks s
  ox : ∀ u ∈ l, u.x ∈ xs
  mu : MuOk (mu xs s l at4 now4) (KC xs.length) P i

section
variable {w wr w' : World} {lb d P i : Nat} {xs : List AskR} {K : Nat → Prop} {s s' : Sl} {l : List Un} {v : Value} {ab nb : Nat} {at4 : List Nat} {now4 : List (Option Nat)}
/-- A worker with nothing to do any more. -/
theorem Tl.idle (h : Tl w wr lb d xs P i K s l v ab nb at4 now4) {q : Nat} (hq : q < 4) (hP : P ≤ i → q = i % 4) (hnow : now4.getD q none = none) (h0 : rem xs (at4.getD q 0) q = 0) : Tl w wr lb d xs P (i + 1) K s l v ab nb at4 now4 :=
  ⟨h.tm.upM (Nat.le_succ _), h.ti.later (Nat.le_succ _), h.al, h.cnt, fun u hu b e => by have := h.lt u hu b e; omega, h.ls, h.ox, h.mu.turn hq hP (.inr (by unfold Go.Proofs.YtopihgdbfhiejaaDoor.mu; rw [if_pos ⟨h0, hnow⟩])) (fun _ _ _ => Nat.le_refl _)⟩
/-- A worker has looked past an ask that is not its own. -/
theorem Tl.past (h : Tl w wr lb d xs P i K s l v ab nb at4 now4) {q : Nat} (hq : q < 4) {x : AskR} (hx : xs[at4.getD q 0]? = some x) (hn : wkr x ≠ q) : Tl w (wr.setCell ⟨ab, q, none⟩ (.int .i64 ((at4.getD q 0 + 1 : Nat) : Int))) lb d xs P i K s l v ab nb (at4.set q (at4.getD q 0 + 1)) now4 := by
  have hr : ∀ q2, rem xs ((at4.set q (at4.getD q 0 + 1)).getD q2 0) q2 = rem xs (at4.getD q2 0) q2 := fun q2 => by
    rw [getD4 h.tm.la.1 hq]
    by_cases e : q2 = q
    · rw [if_pos e, e]; exact rem_pass hx hn
    · rw [if_neg e]
  refine ⟨h.tm.setAt q _, h.ti, fun q2 h2 => ?_, by rw [hr, hr, hr, hr]; exact h.cnt, h.lt, h.ls, h.ox, ?_⟩
  · rw [getD4 h.tm.la.1 hq]
    by_cases e : q2 = q
    · rw [if_pos e]; have := (List.getElem?_eq_some_iff.1 hx).1; omega
    · rw [if_neg e]; exact h.al q2 h2
  · have : Go.Proofs.YtopihgdbfhiejaaDoor.mu xs s l (at4.set q (at4.getD q 0 + 1)) now4 = Go.Proofs.YtopihgdbfhiejaaDoor.mu xs s l at4 now4 := by
      funext q2
      unfold Go.Proofs.YtopihgdbfhiejaaDoor.mu
      rw [hr]
    rw [this]; exact h.mu
theorem LT.nd {M : Nat} {z : Nat} (h : LT w K lb d z M s) : s.cells.Nodup := by
  obtain ⟨g, gt, tc, sv, T, N, m, F, hL, hok, hcw, r⟩ := h
  exact hcw.nd
/-- Facts for a step. -/
theorem Tl.facts (h : Tl w wr lb d xs P i K s l v ab nb at4 now4) : s.cells.length ≤ 8 + 8 * xs.length ∧ s.tw.length ≤ xs.length + 1 ∧ l.length ≤ xs.length := by
  have h1 := h.ti.room h.tm.ht.nd
  have h2 := h.cnt
  have h3 := h.ti.ct
  have h4 := List.length_filter_le (fun u : Un => decide (u.o.tw ≠ 0)) l
  omega
theorem curr_at {j : Nat} {u : Un} (h : l[j]? = some u) : curr s l (some j) = cur s u.o := by simp [curr, h]
theorem Ui.cur_le {t n : Nat} {u : Un} (h : Ui s t u) (hf : u.fin = none) (hn : s.tw.length ≤ n + 1) : cur s u.o ≤ 9 * n + 40 := by
  have hg := hgt_bd u.x.h
  cases hb : bad u.x with
  | true =>
    rw [h.nrun hf hb]
    have := (opA_bad u.x hb).1
    unfold cur
    rw [if_neg (by omega), if_pos this]
    omega
  | false =>
    have hr := h.run hf hb
    have h8 : u.o.h ≤ 8 := by
      by_cases k : okd u.x = 2
      · have := (hr.h k).1; omega
      · have := (hr.h0 k).1; omega
    refine Go.Proofs.YtopihgdbfhiejaaDoor.cur_le hn h8 ?_
    by_cases q : u.o.tw = 0
    · have := (hr.cs q).2.2; omega
    · obtain ⟨t1, t2⟩ := hr.tw q
      rw [← t2]
      simp [Tw.cells]
      have := t1.h
      omega

/-- A step was done. -/
theorem Tl.stepped (h : Tl w wr lb d xs P i K s l v ab nb at4 now4) {q j : Nat} (hq : q < 4) (hP : P ≤ i → q = i % 4) (hnow : now4.getD q none = some j) {u : Un} (hu : l[j]? = some u) {o' : Opm} {K' B' : Nat → Prop} {cv' : Value} {v' : Value} {now4' : List (Option Nat)}
    (hT : Tm w w' lb d (i + 1) K' s' (l.set j (u.went o' B' cv' i)) v' ab nb at4 now4') (hn' : ∀ q2, now4'.getD q2 none = if q2 = q ∧ o'.st = 5 then none else now4.getD q2 none)
    (hst : (bad u.x = false ∧ Sq 600 s u.o s' o') ∨ (bad u.x = true ∧ s' = s ∧ o' = { u.o with code := 100, st := 5 })) : Tl w w' lb d xs P (i + 1) K' s' (l.set j (u.went o' B' cv' i)) v' ab nb at4 now4' := by
  obtain ⟨f1, f2, f3⟩ := h.facts
  obtain ⟨u2, hu2, hf, hwk⟩ := h.ti.nw q j hnow
  rw [hu] at hu2
  cases hu2
  have hui := h.ti.one u (List.mem_of_getElem? hu)
  have eN : (fun q2 => now4'.getD q2 none) = nowS (fun q2 => now4.getD q2 none) u o' := by
    funext q2
    rw [hn', ← hwk]
    rfl
  have hti : Ti s' (l.set j (u.went o' B' cv' i)) (fun q2 => now4'.getD q2 none) i := by
    rw [eN]
    rcases hst with ⟨hg, hs⟩ | ⟨hg, rfl, rfl⟩
    · exact h.ti.step hu hf hg hs h.tm.ht.ok hT.ht.ok h.tm.ht.nd h.lt
    · exact h.ti.stepBad hu hf hg
  have hls : (Sam s s' ∧ lks s' = lks s) ∨ lks s' = lks s + 1 := by
    rcases hst with ⟨hg, hs⟩ | ⟨hg, rfl, rfl⟩
    · exact hs.lks (hui.run hf hg)
    · exact .inl ⟨Sam.tw rfl, rfl⟩
  have hlen' : s'.tw.length ≤ xs.length + 1 := by
    have h3 := hti.ct
    have h4 := List.length_filter_le (fun u : Un => decide (u.o.tw ≠ 0)) (l.set j (u.went o' B' cv' i))
    rw [List.length_set] at h4
    omega
  have hlk' : lks s' ≤ 8 * (xs.length + 1) := Nat.le_trans (lks_le hT.ht.ok) (by omega)
  have hcp : 1 ≤ cur s u.o := by
    cases hb : bad u.x with
    | false => exact cur_pos (hui.run hf hb)
    | true =>
      rw [hui.nrun hf hb]
      have := (opA_bad u.x hb).1
      unfold cur
      rw [if_neg (by omega), if_pos this]
      exact Nat.le_refl _
  obtain ⟨D, hD⟩ : ∃ D, D = 9 * xs.length + 40 := ⟨_, rfl⟩
  have hcle : ∀ u2 ∈ l.set j (u.went o' B' cv' i), u2.fin = none → cur s' u2.o ≤ D := fun u2 h2 hf2 => by rw [hD]; exact (hti.one u2 h2).cur_le hf2 hlen'
  have hLD : lks s' = lks s + 1 → (8 * (xs.length + 1) - lks s) * D = (8 * (xs.length + 1) - lks s') * D + D := fun e => by
    rw [show 8 * (xs.length + 1) - lks s = (8 * (xs.length + 1) - lks s') + 1 by omega, Nat.succ_mul]
  have hLD2 : lks s' = lks s → (8 * (xs.length + 1) - lks s) * D = (8 * (xs.length + 1) - lks s') * D := fun e => by rw [e]
  have hLD3 : (8 * (xs.length + 1) - lks s') * D ≤ (8 * (xs.length + 1) - lks s) * D := by
    rcases hls with e | e
    · exact Nat.le_of_eq (hLD2 e.2).symm
    · have := hLD e; omega
  refine ⟨hT, hti.later (Nat.le_succ _), h.al, by rw [List.length_set]; exact h.cnt, fun y hy b hb => ?_, by have := h.ls; omega, fun y hy => ?_, h.mu.turn hq hP ?_ (fun q2 h2 hne => ?_)⟩
  · rcases set_mem hu hy with e | ⟨i1, e1, h1⟩
    · rw [e] at hb
      have hb2 : (if o'.st = 5 then some i else none) = some b := hb
      split at hb2
      · cases hb2; omega
      · cases hb2
    · have := h.lt y (List.mem_of_getElem? h1) b hb; omega
  · rcases set_mem hu hy with e | ⟨i1, e1, h1⟩
    · rw [e]; exact h.ox u (List.mem_of_getElem? hu)
    · exact h.ox y (List.mem_of_getElem? h1)
  · -- its own turn
    have hmu : Go.Proofs.YtopihgdbfhiejaaDoor.mu xs s l at4 now4 q = rem xs (at4.getD q 0) q * (9 * xs.length + 41) + (8 * (xs.length + 1) - lks s) * D + cur s u.o := by
      unfold Go.Proofs.YtopihgdbfhiejaaDoor.mu
      rw [if_neg (fun c => by rw [hnow] at c; cases c.2), hnow, curr_at hu, hD]
    rw [hmu]
    by_cases h3 : o'.st = 5
    · have en : now4'.getD q none = none := (hn' q).trans (if_pos ⟨rfl, h3⟩)
      by_cases hr0 : rem xs (at4.getD q 0) q = 0
      · right
        unfold Go.Proofs.YtopihgdbfhiejaaDoor.mu
        exact if_pos ⟨hr0, en⟩
      · left
        have hmu' : Go.Proofs.YtopihgdbfhiejaaDoor.mu xs s' (l.set j (u.went o' B' cv' i)) at4 now4' q = rem xs (at4.getD q 0) q * (9 * xs.length + 41) + (8 * (xs.length + 1) - lks s') * D + 0 := by
          unfold Go.Proofs.YtopihgdbfhiejaaDoor.mu
          rw [if_neg (fun c => hr0 c.1), en, hD]
          rfl
        rw [hmu']
        omega
    · have en : now4'.getD q none = some j := (hn' q).trans ((if_neg (fun c => h3 c.2)).trans hnow)
      left
      have hmu' : Go.Proofs.YtopihgdbfhiejaaDoor.mu xs s' (l.set j (u.went o' B' cv' i)) at4 now4' q = rem xs (at4.getD q 0) q * (9 * xs.length + 41) + (8 * (xs.length + 1) - lks s') * D + cur s' o' := by
        unfold Go.Proofs.YtopihgdbfhiejaaDoor.mu
        rw [if_neg (fun c => by rw [en] at c; cases c.2), en, curr_at (set_new hu), hD]
        rfl
      rw [hmu']
      rcases hst with ⟨hg, hs⟩ | ⟨hg, rfl, rfl⟩
      · have hr := hui.run hf hg
        have hcl := hcle _ (List.mem_of_getElem? (set_new hu)) (show (if o'.st = 5 then some i else none) = none from if_neg h3)
        have hcl2 : cur s' o' ≤ D := hcl
        rcases cur_step hr h.tm.ht.ok hs h3 with e | e
        · rcases hls with e2 | e2
          · have := hLD2 e2.2; omega
          · have := hLD e2; omega
        · have := hLD e; omega
      · exact absurd rfl h3
  · have en : now4'.getD q2 none = now4.getD q2 none := (hn' q2).trans (if_neg (fun c => hne c.1))
    unfold Go.Proofs.YtopihgdbfhiejaaDoor.mu
    rw [en, ← hD]
    split
    · exact Nat.le_refl _
    · have : (8 * (xs.length + 1) - lks s') * D + curr s' (l.set j (u.went o' B' cv' i)) (now4.getD q2 none) ≤ (8 * (xs.length + 1) - lks s) * D + curr s l (now4.getD q2 none) := by
        cases hc : now4.getD q2 none with
        | none => show _ + 0 ≤ _ + 0; omega
        | some j2 =>
          obtain ⟨u3, hu3, hf3, hw3⟩ := h.ti.nw q2 j2 hc
          have hj2 : j2 ≠ j := fun e => by
            subst e
            rw [hu] at hu3; cases hu3
            exact hne (hw3.symm.trans hwk)
          rw [curr_at hu3, curr_at (set_old hj2 hu3)]
          rcases hls with e | e
          · rw [cur_sam e.1]; omega
          · have := hLD e
            have := hcle u3 (List.mem_of_getElem? (set_old hj2 hu3)) hf3
            omega
      omega

/-- An operation was begun. -/
theorem Tl.begun (h : Tl w wr lb d xs P i K s l v ab nb at4 now4) {q : Nat} (hq : q < 4) (hP : P ≤ i → q = i % 4) (hnow : now4.getD q none = none) {x : AskR} (hx : xs[at4.getD q 0]? = some x) (hwk : wkr x = q) {b : Nat} {B : Nat → Prop} {cv : Value} {v' : Value}
    (hT : Tm w w' lb d i K s (l ++ [⟨x, opA x, b, B, cv, i, none⟩]) v' ab nb (at4.set q (at4.getD q 0 + 1)) (now4.set q (some l.length))) :
    Tl w w' lb d xs P (i + 1) K s (l ++ [⟨x, opA x, b, B, cv, i, none⟩]) v' ab nb (at4.set q (at4.getD q 0 + 1)) (now4.set q (some l.length)) := by
  obtain ⟨f1, f2, f3⟩ := h.facts
  have hlt : ∀ q2 j, now4.getD q2 none = some j → j < l.length := fun q2 j hj => by
    obtain ⟨u, hu, _⟩ := h.ti.nw q2 j hj
    exact (List.getElem?_eq_some_iff.1 hu).1
  have hti := h.ti.begun h.tm.ht.ok (x := x) (b := b) (B := B) (cv := cv) (by rw [hwk]; exact hnow) hlt
  have eN : (fun q2 => (now4.set q (some l.length)).getD q2 none) = fun q2 => if q2 = wkr x then some l.length else now4.getD q2 none := by
    funext q2
    rw [getD4 h.tm.la.2 hq, hwk]
  rw [← eN] at hti
  have hr : ∀ q2, q2 ≠ q → rem xs ((at4.set q (at4.getD q 0 + 1)).getD q2 0) q2 = rem xs (at4.getD q2 0) q2 := fun q2 hne => by rw [getD4 h.tm.la.1 hq, if_neg hne]
  have hrq : rem xs (at4.getD q 0) q = rem xs ((at4.set q (at4.getD q 0 + 1)).getD q 0) q + 1 := by
    rw [getD4 h.tm.la.1 hq, if_pos rfl]; exact rem_take hx hwk
  refine ⟨hT.upM (Nat.le_succ _), hti.later (Nat.le_succ _), fun q2 h2 => ?_, ?_, fun y hy b hb => ?_, h.ls, fun y hy => ?_, h.mu.turn hq hP (.inl ?_) (fun q2 h2 hne => ?_)⟩
  · rw [getD4 h.tm.la.1 hq]
    by_cases e : q2 = q
    · rw [if_pos e]; have := (List.getElem?_eq_some_iff.1 hx).1; omega
    · rw [if_neg e]; exact h.al q2 h2
  · have hc := h.cnt
    rw [List.length_append, List.length_singleton]
    rcases (show q = 0 ∨ q = 1 ∨ q = 2 ∨ q = 3 by omega) with e | e | e | e <;> subst e
    · rw [hr 1 (by decide), hr 2 (by decide), hr 3 (by decide)]; omega
    · rw [hr 0 (by decide), hr 2 (by decide), hr 3 (by decide)]; omega
    · rw [hr 0 (by decide), hr 1 (by decide), hr 3 (by decide)]; omega
    · rw [hr 0 (by decide), hr 1 (by decide), hr 2 (by decide)]; omega
  · rcases List.mem_append.1 hy with q9 | q9
    · have := h.lt y q9 b hb; omega
    · simp at q9; rw [q9] at hb; cases hb
  · rcases List.mem_append.1 hy with q9 | q9
    · exact h.ox y q9
    · simp at q9; rw [q9]; exact List.mem_of_getElem? hx
  · unfold Go.Proofs.YtopihgdbfhiejaaDoor.mu
    rw [hrq, getD4 h.tm.la.2 hq, if_pos rfl, hnow, if_neg (show ¬ (_ ∧ (some l.length : Option Nat) = none) from fun c => Option.some_ne_none _ c.2), if_neg (show ¬ (rem xs ((at4.set q (at4.getD q 0 + 1)).getD q 0) q + 1 = 0 ∧ _) from fun c => by have := c.1; omega), curr_at (u := ⟨x, opA x, b, B, cv, i, none⟩) (by simp)]
    have hc : cur s (opA x) ≤ 9 * xs.length + 40 := (hti.one ⟨x, opA x, b, B, cv, i, none⟩ (by simp)).cur_le rfl f2
    rw [Nat.add_mul]
    show _ + _ + cur s (opA x) + 1 ≤ _ + 1 * _ + _ + 0
    omega
  · unfold Go.Proofs.YtopihgdbfhiejaaDoor.mu
    rw [hr q2 hne, getD4 h.tm.la.2 hq, if_neg hne]
    have : curr s (l ++ [⟨x, opA x, b, B, cv, i, none⟩]) (now4.getD q2 none) = curr s l (now4.getD q2 none) := by
      cases hc : now4.getD q2 none with
      | none => rfl
      | some j2 =>
        obtain ⟨u3, hu3, _⟩ := h.ti.nw q2 j2 hc
        rw [curr_at hu3, curr_at (u := u3) (by rw [List.getElem?_append_left (hlt q2 j2 hc)]; exact hu3)]
    rw [this]
    exact Nat.le_refl _
/-- When nobody has anything to do any more. -/
theorem Tl.over (h : Tl w wr lb d xs P i K s l v ab nb at4 now4) (hn : ∀ q, q < 4 → now4.getD q none = none) : (∀ u ∈ l, u.fin.isSome = true) ∧ s.sp = [] := by
  have hall : ∀ u ∈ l, u.fin.isSome = true := fun u hu => by
    obtain ⟨j, hj⟩ := List.getElem?_of_mem hu
    cases hf : u.fin with
    | some f => rfl
    | none =>
      have h2 := h.ti.un j u hj hf
      have h3 := hn _ (wkr_lt u.x)
      rw [show now4.getD (wkr u.x) none = some j from h2] at h3
      cases h3
  refine ⟨hall, ?_⟩
  cases hs : s.sp with
  | nil => rfl
  | cons c cs =>
    obtain ⟨u, hu, hf, _⟩ := h.ti.sp c (by rw [hs]; simp)
    have := hall u hu
    rw [hf] at this; cases this
/-- At the end all are done. -/
theorem Tl.done (h : Tl w wr lb d xs P (P + 4 * KC xs.length) K s l v ab nb at4 now4) : l.length = xs.length ∧ (∀ q, q < 4 → now4.getD q none = none) := by
  have hm := h.mu.fin
  have hlk := lks_le h.tm.ht.ok
  obtain ⟨f1, f2, f3⟩ := h.facts
  have h1 : ∀ q, q < 4 → rem xs (at4.getD q 0) q = 0 ∧ now4.getD q none = none := fun q hq => by
    have := hm q hq
    unfold Go.Proofs.YtopihgdbfhiejaaDoor.mu at this
    split at this
    · rename_i c; exact c
    · rename_i c
      refine absurd ?_ c
      have hc : curr s l (now4.getD q none) = 0 := by omega
      refine ⟨?_, ?_⟩
      · rcases Nat.eq_zero_or_pos (rem xs (at4.getD q 0) q) with e | e
        · exact e
        · have : 1 * 41 ≤ rem xs (at4.getD q 0) q * (9 * xs.length + 41) := Nat.mul_le_mul e (by omega)
          omega
      · cases hn : now4.getD q none with
        | none => rfl
        | some j =>
          obtain ⟨u, hu, hf, _⟩ := h.ti.nw q j hn
          rw [hn, curr_at hu] at hc
          have hui := h.ti.one u (List.mem_of_getElem? hu)
          have hcp : 1 ≤ cur s u.o := by
            cases hb : bad u.x with
            | false => exact cur_pos (hui.run hf hb)
            | true =>
              rw [hui.nrun hf hb]
              have := (opA_bad u.x hb).1
              unfold cur
              rw [if_neg (by omega), if_pos this]
              exact Nat.le_refl _
          omega
  refine ⟨?_, fun q hq => (h1 q hq).2⟩
  have := h.cnt
  have a0 := (h1 0 (by decide)).1
  have a1 := (h1 1 (by decide)).1
  have a2 := (h1 2 (by decide)).1
  have a3 := (h1 3 (by decide)).1
  omega
end
end
end Go.Proofs.YtopihgdbfhiejaaDoor
