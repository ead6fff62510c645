/-
  How many steps are to come; the operations in memory.
-/
import Derived.Test.YtbpihkojmbfccaaDoorHd2
set_option linter.unusedVariables false
set_option linter.unusedSimpArgs false
namespace Go.Proofs.YtbpihkojmbfccaaDoor
open Go.RowKit Go.Maps Go.Sort

/-- At most so many steps are to come. -/
def ur (n : Nat) (s : Tb) (u : Un) : Nat :=
  if good u.x.key = true then
    if u.o.st = 0 then (if u.o.pos < (s.at (bo s u.o)).length then 4 * (n - u.o.pos) + 1 else 4 * (n - u.o.pos) + 4)
    else if u.o.st = 1 then (if u.o.cell = none then 4 * (n - u.o.pos) + 3 else 4 * (n - u.o.pos) + 2)
    else 1
  else 1
theorem ur_pos (n : Nat) (s : Tb) (u : Un) : 1 ≤ ur n s u := by
  unfold ur
  repeat' split
  all_goals omega

section
variable {s s' : Tb} {t z n : Nat} {u : Un} {o' : Opm}
theorem ur_0 (hg : good u.x.key = true) (h : u.o.st = 0) : ur n s u = if u.o.pos < (s.at (bo s u.o)).length then 4 * (n - u.o.pos) + 1 else 4 * (n - u.o.pos) + 4 := by unfold ur; rw [if_pos hg, if_pos h]
theorem ur_1 (hg : good u.x.key = true) (h : u.o.st = 1) : ur n s u = if u.o.cell = none then 4 * (n - u.o.pos) + 3 else 4 * (n - u.o.pos) + 2 := by unfold ur; rw [if_pos hg, if_neg (by omega), if_pos h]
theorem ur_2 (hg : good u.x.key = true) (h : u.o.st = 2) : ur n s u = 1 := by unfold ur; rw [if_pos hg, if_neg (by omega), if_neg (by omega)]
theorem ur_step (h : Run s u) (hg : good u.x.key = true) (hs : Stp z s u.o s' o') (hl : bo s u.o < s.ch.length) (hz : s.cells.length < z) (hn : (s.at (bo s u.o)).length ≤ n) (h3 : o'.st ≠ 3) : ur n s' (u.went o' t) + 1 ≤ ur n s u := by
  have hg' : good (u.went o' t).x.key = true := hg
  have hst := h.st
  cases hs with
  | pass e h0 he hk =>
    have hlt := (List.getElem?_eq_some_iff.1 he).1
    rw [ur_0 hg' (show u.o.st = 0 from h0), ur_0 hg h0, if_pos hlt]
    show (if u.o.pos + 1 < (s.at (bo s u.o)).length then 4 * (n - (u.o.pos + 1)) + 1 else 4 * (n - (u.o.pos + 1)) + 4) + 1 ≤ _
    split <;> omega
  | found e h0 he hk =>
    have hlt := (List.getElem?_eq_some_iff.1 he).1
    have hsp : u.o.spare s = true := by
      cases hq : u.o.spare s with
      | true => rfl
      | false => exact absurd (show (if u.o.spare s = true then 2 else 3) = 3 by rw [hq]; rfl) h3
    rw [ur_2 hg' (show (if u.o.spare s = true then 2 else 3) = 2 by rw [hsp]; rfl), ur_0 hg h0, if_pos hlt]
    omega
  | miss h0 he =>
    by_cases hi : u.o.ins = false
    · exact absurd (show u.o.missed.st = 3 by unfold Opm.missed; rw [if_pos hi]; rfl) h3
    · have e1 : u.o.missed = { u.o with st := 1 } := by unfold Opm.missed; rw [if_neg hi, if_neg (by rw [h.full]; decide)]
      rw [e1] at hg' ⊢
      rw [ur_1 hg' rfl, ur_0 hg h0, if_neg (show ¬ u.o.pos < (s.at (bo s u.o)).length by omega)]
      show (if u.o.cell = none then 4 * (n - u.o.pos) + 3 else 4 * (n - u.o.pos) + 2) + 1 ≤ _
      split <;> omega
  | take c h0 h1 h2 h3 =>
    have hc : u.o.cell = none := by
      cases hq : u.o.cell with
      | none => rfl
      | some c2 =>
        have : u.o.spare s = true := by unfold Opm.spare; rw [hq]; simpa using h.cell c2 hq
        rw [this] at h1; cases h1
    rw [ur_1 hg' (show u.o.st = 1 from h0), ur_1 hg h0, if_pos hc]
    show (if (some c : Option Nat) = none then 4 * (n - u.o.pos) + 3 else 4 * (n - u.o.pos) + 2) + 1 ≤ _
    rw [if_neg (Option.some_ne_none c)]
    omega
  | full h0 _ hz2 => omega
  | link c h0 => exact absurd rfl h3
  | late c h0 hc hcs hi =>
    have hcn : ¬ u.o.cell = none := by rw [hc]; exact Option.some_ne_none c
    have e1 : ur n s u = 4 * (n - u.o.pos) + 2 := by rw [ur_1 hg h0, if_neg hcn]
    rw [ur_0 hg' rfl, e1]
    show (if u.o.pos < (s.at (bo s u.o)).length then 4 * (n - u.o.pos) + 1 else 4 * (n - u.o.pos) + 4) + 1 ≤ _
    rw [if_pos hi]
    omega
  | give c h0 => exact absurd rfl h3
theorem ur_other {v : Un} (hs : Stp z s u.o s' o') (hl : bo s u.o < s.ch.length) : ur n s' v ≤ ur n s v := by
  have eb : bo s' v.o = bo s v.o := by unfold bo; rw [hs.hd]
  obtain ⟨t, ht⟩ := hs.grow hl (bo s v.o)
  have hle : (s.at (bo s v.o)).length ≤ (s'.at (bo s v.o)).length := by rw [ht, List.length_append]; omega
  unfold ur
  rw [eb]
  repeat' split
  all_goals omega
theorem ur_begin (x : AskR) (b t : Nat) (ins : Bool) (r : Int) : ur n s ⟨x, opB s x.key ins r, b, t, none⟩ ≤ 4 * n + 4 := by
  unfold ur
  simp only [opB_st, if_true]
  repeat' split
  all_goals omega
end

/-- How many asks of a worker are still to be begun. -/
def rem (xs : List AskR) (a w : Nat) : Nat := ((xs.drop a).filter fun x => wkr x.w == w).length
theorem rem_pass {xs : List AskR} {a w : Nat} {x : AskR} (h : xs[a]? = some x) (hn : wkr x.w ≠ w) : rem xs (a + 1) w = rem xs a w := by
  have hl := (List.getElem?_eq_some_iff.1 h).1
  have he : xs[a] = x := by rw [List.getElem?_eq_getElem hl] at h; exact Option.some.inj h
  unfold rem
  rw [List.drop_eq_getElem_cons hl, he, List.filter_cons_of_neg (by simpa using hn)]
theorem rem_take {xs : List AskR} {a w : Nat} {x : AskR} (h : xs[a]? = some x) (hn : wkr x.w = w) : rem xs a w = rem xs (a + 1) w + 1 := by
  have hl := (List.getElem?_eq_some_iff.1 h).1
  have he : xs[a] = x := by rw [List.getElem?_eq_getElem hl] at h; exact Option.some.inj h
  unfold rem
  rw [List.drop_eq_getElem_cons hl, he, List.filter_cons_of_pos (by simpa using hn), List.length_cons]
theorem rem_end (xs : List AskR) (w : Nat) : rem xs xs.length w = 0 := by unfold rem; simp
theorem rem_le (xs : List AskR) (a w : Nat) : rem xs a w ≤ xs.length := by
  unfold rem
  have := List.length_filter_le (fun x : AskR => wkr x.w == w) (xs.drop a)
  simp only [List.length_drop] at this
  omega
theorem rem_all (xs : List AskR) : rem xs 0 0 + rem xs 0 1 + rem xs 0 2 + rem xs 0 3 = xs.length := by
  unfold rem
  rw [List.drop_zero]
  induction xs with
  | nil => rfl
  | cons x xs ih =>
    have hl := wkr_lt x.w
    simp only [List.filter_cons, List.length_cons]
    rcases (show wkr x.w = 0 ∨ wkr x.w = 1 ∨ wkr x.w = 2 ∨ wkr x.w = 3 by omega) with h | h | h | h <;> (rw [h]; simp; omega)

def finI : Option Nat → Int
  | none => -1
  | some t => (t : Int)
def Un.cells (u : Un) : List Value := [.int .i64 u.x.w, .bool u.x.look, .string u.x.key, .int .i64 u.x.ref, .pointer (some ⟨u.b, 0, none⟩), .int .i64 (u.beg : Int), .int .i64 (finI u.fin)]
def ov (o : Option Nat) : Value := .int .i64 (finI o)
/-- A row of four numbers. -/
def Ib4 (w : World) (b : Nat) (l : List Value) : Prop := w.heap[b]? = some (.cells l.toArray 3 (0, 0))
theorem Ib4.cell {w : World} {b : Nat} {l : List Value} (h : Ib4 w b l) (i : Nat) : w.cell? ⟨b, i, none⟩ = l[i]? := by
  unfold Ib4 at h
  rw [Go.Joins.cell_of_block h]
  simp
theorem Ib4.set {w : World} {b : Nat} {l : List Value} (h : Ib4 w b l) (i : Nat) (v : Value) : Ib4 (w.setCell ⟨b, i, none⟩ v) b (l.set i v) := by
  unfold Ib4 at *
  rw [Go.Joins.block_setCell h]
  simp

/-- The operations in memory. -/
structure Tm (w wr : World) (tb d M : Nat) (K : Nat → Prop) (s : Tb) (l : List Un) (v : Value) (ab nb : Nat) (at4 : List Nat) (now4 : List (Option Nat)) : Prop where
  ht : HT wr K tb d 400 M s
  row : wr.ownsRow w.heap.size 48 7 v l.length (l.flatMap Un.cells)
  ops : ∀ u ∈ l, Om wr u.b (tp tb) u.o
  nd : (l.map Un.b).Nodup
  kb : ∀ j, K j → w.heap.size ≤ j
  ko : ∀ u ∈ l, ¬ K u.b ∧ w.heap.size ≤ u.b
  kv : ∀ j, v.ownBlock = some j → ¬ K j
  atb : Ib4 wr ab (at4.map nv)
  nowb : Ib4 wr nb (now4.map ov)
  la : at4.length = 4 ∧ now4.length = 4
  ka : ¬ K ab ∧ ¬ K nb ∧ ab ≠ nb ∧ w.heap.size ≤ ab ∧ w.heap.size ≤ nb
  bl : Below w.heap.size w wr
  b0 : 0 < w.heap.size

section
variable {w wr w' : World} {tb d M : Nat} {K : Nat → Prop} {s : Tb} {l : List Un} {v : Value} {ab nb : Nat} {at4 : List Nat} {now4 : List (Option Nat)}
theorem Tm.vb (h : Tm w wr tb d M K s l v ab nb at4 now4) : v.ownBlock ≠ some ab ∧ v.ownBlock ≠ some nb ∧ ∀ u ∈ l, v.ownBlock ≠ some u.b := by
  refine ⟨fun e => ?_, fun e => ?_, fun u hu e => ?_⟩
  · obtain ⟨c, fz, hh⟩ := Go.Lib.ownsRow_kind h.row _ e
    have := h.atb
    unfold Ib4 at this
    rw [this] at hh; simp at hh
  · obtain ⟨c, fz, hh⟩ := Go.Lib.ownsRow_kind h.row _ e
    have := h.nowb
    unfold Ib4 at this
    rw [this] at hh; simp at hh
  · obtain ⟨c, fz, hh⟩ := Go.Lib.ownsRow_kind h.row _ e
    have := h.ops u hu
    unfold Om at this
    rw [this] at hh; simp at hh
theorem Tm.ob (h : Tm w wr tb d M K s l v ab nb at4 now4) {u : Un} (hu : u ∈ l) : u.b ≠ ab ∧ u.b ≠ nb := by
  have h1 := h.ops u hu
  unfold Om at h1
  have h2 := h.atb
  have h3 := h.nowb
  unfold Ib4 at h2 h3
  refine ⟨fun e => ?_, fun e => ?_⟩
  · rw [e, h2] at h1; simp at h1
  · rw [e, h3] at h1; simp at h1
/-- What is done elsewhere. -/
theorem Tm.keep {G : Nat → Prop} (h : Tm w wr tb d M K s l v ab nb at4 now4) (k : Fr G wr w') (h1 : ∀ j, K j → ¬ G j) (h2 : ∀ j, v.ownBlock = some j → ¬ G j) (h3 : ∀ u ∈ l, ¬ G u.b) (h4 : ¬ G ab ∧ ¬ G nb) (h5 : ∀ j, j < w.heap.size → ¬ G j) : Tm w w' tb d M K s l v ab nb at4 now4 :=
  ⟨h.ht.keep k h1 (h5 0 h.b0), hrow_fr h.row k h2, fun u hu => (h.ops u hu).fr k (h3 u hu), h.nd, h.kb, h.ko, h.kv, (k.block ab (Array.getElem?_eq_some_iff.1 h.atb).1 h4.1).trans h.atb, (k.block nb (Array.getElem?_eq_some_iff.1 h.nowb).1 h4.2).trans h.nowb, h.la, h.ka, h.bl.trans (k.to h5 h.bl.size), h.b0⟩
theorem Tm.below (h : Tm w wr tb d M K s l v ab nb at4 now4) (hb : Below wr.heap.size wr w') : Tm w w' tb d M K s l v ab nb at4 now4 :=
  h.keep (Fr.below (F := fun _ => False) hb) (fun _ _ => id) (fun _ _ => id) (fun _ _ => id) ⟨id, id⟩ (fun _ _ => id)
theorem Tm.setAt (h : Tm w wr tb d M K s l v ab nb at4 now4) (i k : Nat) : Tm w (wr.setCell ⟨ab, i, none⟩ (.int .i64 (k : Int))) tb d M K s l v ab nb (at4.set i k) now4 := by
  have hF : Fr (fun j => j = ab) wr (wr.setCell ⟨ab, i, none⟩ (.int .i64 (k : Int))) := Fr.setCell (p := ⟨ab, i, none⟩) (Fr.refl (fun j => j = ab) wr) (.inl rfl) _
  refine ⟨h.ht.keep hF (fun j hj e => h.ka.1 (e ▸ hj)) (fun e => by have := h.ka.2.2.2.1; have := h.b0; omega), hrow_fr h.row hF (fun j e q => h.vb.1 (q ▸ e)), fun u hu => (h.ops u hu).fr hF (h.ob hu).1, h.nd, h.kb, h.ko, h.kv, ?_, (hF.block nb (Array.getElem?_eq_some_iff.1 h.nowb).1 (fun e => h.ka.2.2.1 e.symm)).trans h.nowb, ⟨by simpa using h.la.1, h.la.2⟩, h.ka, h.bl.trans (hF.to (fun j hj e => by have := h.ka.2.2.2.1; omega) h.bl.size), h.b0⟩
  rw [List.map_set]
  exact h.atb.set i _
theorem Tm.setNow (h : Tm w wr tb d M K s l v ab nb at4 now4) (i : Nat) (o : Option Nat) : Tm w (wr.setCell ⟨nb, i, none⟩ (ov o)) tb d M K s l v ab nb at4 (now4.set i o) := by
  have hF : Fr (fun j => j = nb) wr (wr.setCell ⟨nb, i, none⟩ (ov o)) := Fr.setCell (p := ⟨nb, i, none⟩) (Fr.refl (fun j => j = nb) wr) (.inl rfl) _
  refine ⟨h.ht.keep hF (fun j hj e => h.ka.2.1 (e ▸ hj)) (fun e => by have := h.ka.2.2.2.2; have := h.b0; omega), hrow_fr h.row hF (fun j e q => h.vb.2.1 (q ▸ e)), fun u hu => (h.ops u hu).fr hF (h.ob hu).2, h.nd, h.kb, h.ko, h.kv, (hF.block ab (Array.getElem?_eq_some_iff.1 h.atb).1 h.ka.2.2.1).trans h.atb, ?_, ⟨h.la.1, by simpa using h.la.2⟩, h.ka, h.bl.trans (hF.to (fun j hj e => by have := h.ka.2.2.2.2; omega) h.bl.size), h.b0⟩
  rw [List.map_set]
  exact h.nowb.set i _
end
end Go.Proofs.YtbpihkojmbfccaaDoor
