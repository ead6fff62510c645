/-
  Rl0: What commits leave of rows by rising keys, without memory; commits by their times.
-/
import Derived.Test.YtheidhkmmihjlaaYMr8
import Derived.Test.YtheidhkmmihjlaaYCp8
import Derived.Test.YtheidhkmmihjlaaE0
set_option linter.unusedVariables false
set_option linter.unusedSimpArgs false
namespace Go.Proofs.Ytheidhkmmihjlaa
open Go.RowKit
open ML (Ro Srt nless fstOf Fst strLit strLit_inj setL setL_same setL_other delL delL_same delL_other od nl_irr nl_tr nl_tot)

/-- A commit as it lies in memory: its time, the slice of its writes, and what these are. -/
structure Kc where
  t : Int
  ao : Option Addr
  len : Nat
  cap : Nat
  ws : List Wr
abbrev Kc.cl (c : Kc) : List Value := [.int .i64 c.t, .slice c.ao c.len c.cap]
abbrev Kc.val (c : Kc) : Value := .agg #[.int .i64 c.t, .slice c.ao c.len c.cap]
abbrev Kc.cm (c : Kc) : Cm := ⟨c.t, c.ws⟩
abbrev roW (r : Ro) : Rw := ⟨r.k, r.v, r.t⟩

/-! ### Rows behind writes -/
def newR (w : Wr) (t : Int) : List Ro := if w.gone then [] else [⟨w.key, w.val, t⟩]
def cutK (s : ByteArray) : List Ro → List Ro
  | [] => []
  | a :: l => if a.k = s then l else a :: l
theorem cutK_cons (s : ByteArray) (a : Ro) (l : List Ro) : cutK s (a :: l) = if a.k = s then l else a :: l := rfl
def doneD (l : List Ro) (w : Wr) (t : Int) : List Ro := l.takeWhile (fun r => nless r.k w.key) ++ (newR w t ++ cutK w.key (l.dropWhile fun r => nless r.k w.key))
theorem doneD_nil (w : Wr) (t : Int) : doneD [] w t = newR w t := by simp [doneD, cutK]
theorem doneD_cons (a : Ro) (l : List Ro) (w : Wr) (t : Int) : doneD (a :: l) w t = if nless a.k w.key = true then a :: doneD l w t else newR w t ++ cutK w.key (a :: l) := by
  unfold doneD
  cases h : nless a.k w.key with
  | true => simp [List.takeWhile_cons, List.dropWhile_cons, h]
  | false => simp [List.takeWhile_cons, List.dropWhile_cons, h]
theorem newR_mem {w : Wr} {t : Int} {x : Ro} : x ∈ newR w t ↔ w.gone = false ∧ x = ⟨w.key, w.val, t⟩ := by
  unfold newR
  cases w.gone <;> simp
theorem srt_cons {a : Ro} {l : List Ro} : Srt (a :: l) ↔ (∀ z ∈ l, nless a.k z.k = true) ∧ Srt l := List.pairwise_cons
theorem cutK_mem {s : ByteArray} {a : Ro} {l : List Ro} (h : Srt (a :: l)) (hn : nless a.k s = false) {x : Ro} : x ∈ cutK s (a :: l) ↔ x ∈ a :: l ∧ x.k ≠ s := by
  have h' := srt_cons.1 h
  have far : ∀ z ∈ l, z.k ≠ s := fun z hz e => by have := h'.1 z hz; rw [e, hn] at this; cases this
  rw [cutK_cons]
  split
  · next e =>
    constructor
    · intro q; exact ⟨List.mem_cons_of_mem _ q, far x q⟩
    · rintro ⟨q, n⟩
      rcases List.mem_cons.1 q with p | p
      · rw [p] at n; exact absurd e n
      · exact p
  · next e =>
    constructor
    · intro q
      refine ⟨q, ?_⟩
      rcases List.mem_cons.1 q with p | p
      · rw [p]; exact e
      · exact far x p
    · rintro ⟨q, _⟩; exact q
theorem doneD_mem : ∀ {l : List Ro}, Srt l → ∀ {w : Wr} {t : Int} {x : Ro}, x ∈ doneD l w t ↔ x ∈ newR w t ∨ x ∈ l ∧ x.k ≠ w.key := by
  intro l
  induction l with
  | nil => intro _ w t x; rw [doneD_nil]; simp
  | cons a l ih =>
    intro h w t x
    have h' := srt_cons.1 h
    rw [doneD_cons]
    cases hn : nless a.k w.key with
    | true =>
      rw [if_pos rfl, List.mem_cons, ih h'.2, List.mem_cons]
      have ha : a.k ≠ w.key := fun e => by rw [e, nl_irr] at hn; cases hn
      constructor
      · rintro (p | p | p)
        · exact .inr ⟨.inl p, by rw [p]; exact ha⟩
        · exact .inl p
        · exact .inr ⟨.inr p.1, p.2⟩
      · rintro (p | ⟨p | p, e⟩)
        · exact .inr (.inl p)
        · exact .inl p
        · exact .inr (.inr ⟨p, e⟩)
    | false =>
      rw [if_neg (by simp), List.mem_append, cutK_mem h hn]
theorem cutK_sub {s : ByteArray} {l : List Ro} {x : Ro} (h : x ∈ cutK s l) : x ∈ l := by
  cases l with
  | nil => cases h
  | cons a l =>
    rw [cutK_cons] at h
    split at h
    · exact List.mem_cons_of_mem _ h
    · exact h
theorem cutK_srt {s : ByteArray} {l : List Ro} (h : Srt l) : Srt (cutK s l) := by
  cases l with
  | nil => exact h
  | cons a l =>
    rw [cutK_cons]
    split
    · exact (srt_cons.1 h).2
    · exact h
theorem doneD_srt : ∀ {l : List Ro}, Srt l → ∀ {w : Wr} {t : Int}, Srt (doneD l w t) := by
  intro l
  induction l with
  | nil =>
    intro _ w t
    rw [doneD_nil]
    unfold newR
    split
    · exact List.Pairwise.nil
    · exact List.pairwise_singleton _ _
  | cons a l ih =>
    intro h w t
    have h' := srt_cons.1 h
    rw [doneD_cons]
    cases hn : nless a.k w.key with
    | true =>
      rw [if_pos rfl]
      refine srt_cons.2 ⟨fun z hz => ?_, ih h'.2⟩
      rcases (doneD_mem h'.2).1 hz with p | p
      · rw [(newR_mem.1 p).2]; exact hn
      · exact h'.1 z p.1
    | false =>
      rw [if_neg (by simp)]
      have hc := cutK_srt (s := w.key) h
      unfold newR
      split
      · exact hc
      · refine srt_cons.2 ⟨fun z hz => ?_, hc⟩
        have hz' := (cutK_mem h hn).1 hz
        show nless w.key z.k = true
        have hle : nless w.key a.k = true ∨ w.key = a.k := by
          rcases nl_tot w.key a.k with q | q | q
          · exact .inl q
          · exact .inr q
          · rw [hn] at q; cases q
        rcases List.mem_cons.1 hz'.1 with p | p
        · rcases hle with q | q
          · rw [p]; exact q
          · rw [p] at hz'; exact absurd q.symm hz'.2
        · have hz2 := h'.1 z p
          rcases hle with q | q
          · exact nl_tr q hz2
          · rw [q]; exact hz2
def doneW (t : Int) (L : List Ro) (ws : List Wr) : List Ro := ws.foldl (fun l w => doneD l w t) L
def doneC (L : List Ro) (cs : List Kc) : List Ro := cs.foldl (fun l c => doneW c.t l c.ws) L
theorem doneW_srt {t : Int} : ∀ {ws : List Wr} {L : List Ro}, Srt L → Srt (doneW t L ws)
  | [], _, h => h
  | w :: ws, L, h => doneW_srt (ws := ws) (L := doneD L w t) (doneD_srt h)
theorem doneC_srt : ∀ {cs : List Kc} {L : List Ro}, Srt L → Srt (doneC L cs)
  | [], _, h => h
  | c :: cs, L, h => doneC_srt (cs := cs) (L := doneW c.t L c.ws) (doneW_srt h)
theorem doneW_take {t : Int} {L : List Ro} {ws : List Wr} {k : Nat} {w : Wr} (h : ws[k]? = some w) : doneW t L (ws.take (k + 1)) = doneD (doneW t L (ws.take k)) w t := by
  rw [ML.take_snoc h]; unfold doneW; rw [List.foldl_append]; rfl
theorem doneC_take {L : List Ro} {cs : List Kc} {k : Nat} {c : Kc} (h : cs[k]? = some c) : doneC L (cs.take (k + 1)) = doneW c.t (doneC L (cs.take k)) c.ws := by
  rw [ML.take_snoc h]; unfold doneC; rw [List.foldl_append]; rfl
theorem doneD_len (l : List Ro) (w : Wr) (t : Int) : (doneD l w t).length ≤ l.length + 1 := by
  unfold doneD
  rw [List.length_append, List.length_append]
  have h1 : (newR w t).length ≤ 1 := by unfold newR; split <;> simp
  have h2 : (cutK w.key (l.dropWhile fun r => nless r.k w.key)).length ≤ (l.dropWhile fun r => nless r.k w.key).length := by
    cases l.dropWhile fun r => nless r.k w.key with
    | nil => exact Nat.le_refl _
    | cons a m => rw [cutK_cons]; split <;> simp
  have h3 : l.length = (l.takeWhile fun r => nless r.k w.key).length + (l.dropWhile fun r => nless r.k w.key).length := by
    rw [← List.length_append, List.takeWhile_append_dropWhile]
  omega
theorem doneW_len {t : Int} : ∀ (ws : List Wr) (L : List Ro), (doneW t L ws).length ≤ L.length + ws.length
  | [], L => Nat.le_refl _
  | w :: ws, L => by
    have h1 := doneW_len (t := t) ws (doneD L w t)
    have h2 := doneD_len L w t
    show (doneW t (doneD L w t) ws).length ≤ _
    simp only [List.length_cons]
    omega
/-- How many writes commits have. -/
def cnt (cs : List Kc) : Nat := (cs.map fun c => c.ws.length).sum
theorem cnt_cons (c : Kc) (cs : List Kc) : cnt (c :: cs) = c.ws.length + cnt cs := by simp [cnt]
theorem cnt_append (a b : List Kc) : cnt (a ++ b) = cnt a + cnt b := by simp [cnt]
theorem cnt_perm {a b : List Kc} (h : a.Perm b) : cnt a = cnt b := by
  unfold cnt
  exact (h.map _).sum_nat
theorem cnt_sub {a b : List Kc} (h : a.Sublist b) : cnt a ≤ cnt b := by
  induction h with
  | slnil => exact Nat.le_refl _
  | cons c _ ih => rw [cnt_cons]; omega
  | cons_cons c _ ih => rw [cnt_cons, cnt_cons]; omega
theorem cnt_take (cs : List Kc) (k : Nat) : cnt (cs.take k) ≤ cnt cs := cnt_sub (List.take_sublist _ _)
theorem doneC_len : ∀ (cs : List Kc) (L : List Ro), (doneC L cs).length ≤ L.length + cnt cs
  | [], L => by simp [doneC, cnt]
  | c :: cs, L => by
    have h1 := doneC_len cs (doneW c.t L c.ws)
    have h2 := doneW_len (t := c.t) c.ws L
    show (doneC (doneW c.t L c.ws) cs).length ≤ _
    rw [cnt_cons]
    omega

/-! ### A map of such rows -/
def Fm (L : List Ro) (f : Lit → Option Value) : Prop := ∀ l v, f l = some v ↔ ∃ r ∈ L, l = strLit r.k ∧ v = r.val
theorem fst_iff {L : List Ro} (hs : Srt L) {s : ByteArray} {r : Ro} : fstOf L s = some r ↔ r ∈ L ∧ r.k = s := by
  unfold fstOf
  constructor
  · intro h
    exact ⟨List.mem_of_find?_eq_some h, by simpa using List.find?_some h⟩
  · rintro ⟨h1, h2⟩
    cases hq : L.find? fun r => decide (r.k = s) with
    | none =>
      have := List.find?_eq_none.1 hq r h1
      simp [h2] at this
    | some r' =>
      have m1 := List.mem_of_find?_eq_some hq
      have m2 : r'.k = s := by simpa using List.find?_some hq
      rw [Ck.Ris.inj od hs m1 h1 (by rw [m2, h2])]
theorem Fm.fst {L : List Ro} {f : Lit → Option Value} (hs : Srt L) (h : Fm L f) : Fst L f := by
  refine ⟨fun l v q => (h l v).1 q, fun s => ?_⟩
  cases hq : fstOf L s with
  | none =>
    cases hf : f (strLit s) with
    | none => rfl
    | some v =>
      obtain ⟨r, hr, e1, e2⟩ := (h _ _).1 hf
      have := (fst_iff hs).2 ⟨hr, (strLit_inj e1).symm⟩
      rw [hq] at this; cases this
  | some r =>
    have hr := (fst_iff hs).1 hq
    exact (h _ _).2 ⟨r, hr.1, by rw [hr.2], rfl⟩
theorem Fm.nil : Fm [] (fun _ => none) := fun l v => ⟨(nomatch ·), fun ⟨r, hr, _⟩ => by cases hr⟩
theorem Fm.snoc {L : List Ro} {f : Lit → Option Value} {x : Ro} (h : Fm L f) (hx : ∀ r ∈ L, r.k ≠ x.k) : Fm (L ++ [x]) (setL f (strLit x.k) x.val) := by
  intro l v
  by_cases e : l = strLit x.k
  · rw [e, setL_same]
    constructor
    · intro q; exact ⟨x, by simp, rfl, (Option.some.inj q).symm⟩
    · rintro ⟨r, hr, e1, e2⟩
      rcases List.mem_append.1 hr with q | q
      · exact absurd (strLit_inj e1).symm (hx r q)
      · simp at q; rw [e2, q]
  · rw [setL_other e, h]
    constructor
    · rintro ⟨r, hr, q⟩; exact ⟨r, by simp [hr], q⟩
    · rintro ⟨r, hr, q1, q2⟩
      rcases List.mem_append.1 hr with p | p
      · exact ⟨r, p, q1, q2⟩
      · simp at p; rw [p] at q1; exact absurd q1 e
theorem Fm.put {L : List Ro} {f : Lit → Option Value} {w : Wr} {t : Int} (hs : Srt L) (h : Fm L f) (hg : w.gone = false) : Fm (doneD L w t) (setL f (strLit w.key) (Ro.val ⟨w.key, w.val, t⟩)) := by
  intro l v
  by_cases e : l = strLit w.key
  · rw [e, setL_same]
    constructor
    · intro q; exact ⟨⟨w.key, w.val, t⟩, (doneD_mem hs).2 (.inl (newR_mem.2 ⟨hg, rfl⟩)), rfl, (Option.some.inj q).symm⟩
    · rintro ⟨r, hr, e1, e2⟩
      rcases (doneD_mem hs).1 hr with q | q
      · rw [e2, (newR_mem.1 q).2]
      · exact absurd (strLit_inj e1).symm q.2
  · rw [setL_other e, h]
    constructor
    · rintro ⟨r, hr, q1, q2⟩; exact ⟨r, (doneD_mem hs).2 (.inr ⟨hr, fun z => e (by rw [q1, z])⟩), q1, q2⟩
    · rintro ⟨r, hr, q1, q2⟩
      rcases (doneD_mem hs).1 hr with q | q
      · rw [(newR_mem.1 q).2] at q1; exact absurd q1 e
      · exact ⟨r, q.1, q1, q2⟩
theorem Fm.del {L : List Ro} {f : Lit → Option Value} {w : Wr} {t : Int} (hs : Srt L) (h : Fm L f) (hg : w.gone = true) : Fm (doneD L w t) (delL f (strLit w.key)) := by
  intro l v
  by_cases e : l = strLit w.key
  · rw [e, delL_same]
    constructor
    · intro q; cases q
    · rintro ⟨r, hr, e1, e2⟩
      rcases (doneD_mem hs).1 hr with q | q
      · have := (newR_mem.1 q).1; rw [hg] at this; cases this
      · exact absurd (strLit_inj e1).symm q.2
  · rw [delL_other e, h]
    constructor
    · rintro ⟨r, hr, q1, q2⟩; exact ⟨r, (doneD_mem hs).2 (.inr ⟨hr, fun z => e (by rw [q1, z])⟩), q1, q2⟩
    · rintro ⟨r, hr, q1, q2⟩
      rcases (doneD_mem hs).1 hr with q | q
      · have := (newR_mem.1 q).1; rw [hg] at this; cases this
      · exact ⟨r, q.1, q1, q2⟩
theorem srt_one {L ys : List Ro} (hs : Srt L) (hy : Srt ys) (h : ∀ r, r ∈ ys ↔ fstOf L r.k = some r) : ys = L :=
  Ck.Ris.eq od hy hs fun x => (h x).trans ⟨fun q => ((fst_iff hs).1 q).1, fun q => (fst_iff hs).2 ⟨q, rfl⟩⟩

/-! ### Are rows right, and do they rise? -/
def okAt (L : List Ro) (i : Nat) : Bool := match L[i]? with
  | none => true
  | some r => rightR (roW r) && (decide (i = 0) || match L[i - 1]? with | none => true | some p => nless p.k r.k)
def okTo (L : List Ro) (n : Nat) : Bool := (List.range n).all (okAt L)
theorem okTo_zero (L : List Ro) : okTo L 0 = true := rfl
theorem okTo_succ (L : List Ro) (n : Nat) : okTo L (n + 1) = (okTo L n && okAt L n) := by unfold okTo; rw [List.range_succ, List.all_append]; simp
theorem okTo_bad {L : List Ro} {n : Nat} (h : n < L.length) (hb : okAt L n = false) : okTo L L.length = false := by
  unfold okTo
  rw [List.all_eq_false]
  exact ⟨n, List.mem_range.2 h, by rw [hb]; simp⟩
theorem okTo_at {L : List Ro} (h : okTo L L.length = true) {i : Nat} (hi : i < L.length) : okAt L i = true := List.all_eq_true.1 h i (List.mem_range.2 hi)
theorem okTo_srt {L : List Ro} (h : okTo L L.length = true) : Srt L := by
  refine List.pairwise_iff_getElem.2 ?_
  intro i j hi hj hij
  induction j with
  | zero => omega
  | succ j ih =>
    have h1 := okTo_at h hj
    unfold okAt at h1
    rw [List.getElem?_eq_getElem hj] at h1
    simp only [Nat.add_sub_cancel] at h1
    rw [List.getElem?_eq_getElem (show j < L.length by omega)] at h1
    simp only [Nat.add_one_ne_zero, decide_false, Bool.false_or, Bool.and_eq_true] at h1
    rcases Nat.lt_or_ge i j with q | q
    · exact nl_tr (ih (by omega) q) h1.2
    · have : i = j := by omega
      subst this
      exact h1.2

/-! ### Commits by their times -/
def insT (out : List Kc) (c : Kc) : List Kc := out.takeWhile (fun x => decide (x.t < c.t)) ++ (c :: out.dropWhile (fun x => decide (x.t < c.t)))
def dupT (out : List Kc) (c : Kc) : Bool := match out.dropWhile (fun x => decide (x.t < c.t)) with
  | [] => false
  | a :: _ => decide (a.t = c.t)
def laterG (frm : Int) (out : List Kc) : List Kc → Option (List Kc)
  | [] => some out
  | c :: l => if c.t ≤ frm then laterG frm out l else if dupT out c then none else laterG frm (insT out c) l
abbrev RisT (l : List Kc) : Prop := l.Pairwise fun a b => a.t < b.t
def due (frm : Int) (l : List Kc) : List Kc := l.filter fun c => decide (frm < c.t)
theorem insT_perm (out : List Kc) (c : Kc) : (insT out c).Perm (out ++ [c]) := by
  unfold insT
  refine List.perm_middle.trans ?_
  rw [List.takeWhile_append_dropWhile]
  exact (List.perm_append_singleton c out).symm
theorem tw_all {α : Type} (p : α → Bool) {x : α} : ∀ l : List α, x ∈ l.takeWhile p → p x = true := ML.tw_mem p
theorem dw_head {α : Type} (p : α → Bool) {a : α} {m : List α} : ∀ l : List α, l.dropWhile p = a :: m → p a = false
  | [], h => by cases h
  | b :: l, h => by
    rw [List.dropWhile_cons] at h
    cases hp : p b with
    | true => rw [hp] at h; exact dw_head p l h
    | false => rw [hp] at h; cases h; exact hp
theorem insT_ris {out : List Kc} {c : Kc} (h : RisT out) (hd : dupT out c = false) : RisT (insT out c) := by
  have h0 : RisT (out.takeWhile (fun x => decide (x.t < c.t)) ++ out.dropWhile (fun x => decide (x.t < c.t))) := by rw [List.takeWhile_append_dropWhile]; exact h
  have h1 := List.pairwise_append.1 h0
  unfold insT
  refine List.pairwise_append.2 ⟨h1.1, List.pairwise_cons.2 ⟨fun z hz => ?_, h1.2.1⟩, fun a ha b hb => ?_⟩
  · unfold dupT at hd
    cases hq : out.dropWhile (fun x => decide (x.t < c.t)) with
    | nil => rw [hq] at hz; cases hz
    | cons a m =>
      rw [hq] at hd hz h1
      have ha := dw_head _ _ hq
      simp only [decide_eq_false_iff_not] at ha hd
      rcases List.mem_cons.1 hz with e | e
      · rw [e]; omega
      · have := (List.pairwise_cons.1 h1.2.1).1 z e
        omega
  · have ha' := tw_all _ _ ha
    simp only [decide_eq_true_eq] at ha'
    rcases List.mem_cons.1 hb with e | e
    · rw [e]; exact ha'
    · exact h1.2.2 a ha b e
theorem dupT_mem {out : List Kc} {c : Kc} (h : dupT out c = true) : ∃ a ∈ out, a.t = c.t := by
  unfold dupT at h
  cases hq : out.dropWhile (fun x => decide (x.t < c.t)) with
  | nil => rw [hq] at h; cases h
  | cons a m =>
    rw [hq] at h
    have hm : a ∈ out := (List.dropWhile_sublist _).subset (by rw [hq]; exact List.mem_cons_self)
    exact ⟨a, hm, by simpa using h⟩
theorem laterG_some : ∀ {l out S : List Kc} {frm : Int}, RisT out → laterG frm out l = some S → RisT S ∧ S.Perm (out ++ due frm l)
  | [], out, S, frm, h, e => by
    cases e
    exact ⟨h, by simp [due]⟩
  | c :: l, out, S, frm, h, e => by
    unfold laterG at e
    split at e
    · next q =>
      have := laterG_some h e
      refine ⟨this.1, ?_⟩
      have e2 : due frm (c :: l) = due frm l := by unfold due; rw [List.filter_cons, if_neg (by simp; omega)]
      rw [e2]; exact this.2
    · next q =>
      split at e
      · cases e
      · next d =>
        have := laterG_some (insT_ris h (by simpa using d)) e
        refine ⟨this.1, this.2.trans ?_⟩
        have e2 : due frm (c :: l) = c :: due frm l := by unfold due; rw [List.filter_cons, if_pos (by simp; omega)]
        rw [e2]
        refine ((insT_perm out c).append_right _).trans ?_
        rw [List.append_assoc]
        exact List.Perm.refl _
theorem laterG_none : ∀ {l out : List Kc} {frm : Int}, laterG frm out l = none → ¬ ((out ++ due frm l).map Kc.t).Nodup
  | [], out, frm, e => by cases e
  | c :: l, out, frm, e => by
    unfold laterG at e
    split at e
    · next q =>
      have e2 : due frm (c :: l) = due frm l := by unfold due; rw [List.filter_cons, if_neg (by simp; omega)]
      rw [e2]; exact laterG_none e
    · next q =>
      have e2 : due frm (c :: l) = c :: due frm l := by unfold due; rw [List.filter_cons, if_pos (by simp; omega)]
      rw [e2]
      split at e
      · next d =>
        obtain ⟨a, ha, he⟩ := dupT_mem d
        intro hn
        rw [List.map_append, List.nodup_append] at hn
        exact hn.2.2 a.t (List.mem_map.2 ⟨a, ha, rfl⟩) c.t (by simp) he
      · next d =>
        intro hn
        refine laterG_none e ?_
        refine (List.Perm.nodup_iff (List.Perm.map Kc.t ?_)).2 hn
        refine ((insT_perm out c).append_right _).trans ?_
        rw [List.append_assoc]
        exact List.Perm.refl _
theorem risT_nodup {l : List Kc} (h : RisT l) : (l.map Kc.t).Nodup := List.pairwise_map.2 (h.imp fun q e => by omega)
theorem odI : Ck.Od (fun a b : Int => a < b) := ⟨fun a h => by omega, fun a b c h k => by omega, fun a b => by omega⟩
/-- The one order. -/
theorem later_is {l ys : List Kc} {frm : Int} (hp : ys.Perm (due frm l)) (hy : RisT ys) : laterG frm [] l = some ys := by
  cases hq : laterG frm [] l with
  | none =>
    have := laterG_none hq
    rw [List.nil_append] at this
    exact absurd ((List.Perm.nodup_iff (hp.map Kc.t)).1 (risT_nodup hy)) this
  | some S =>
    have h := laterG_some List.Pairwise.nil hq
    rw [List.nil_append] at h
    classical
    rw [Ck.Ris.eq (lt := fun a b : Int => a < b) (key := Kc.t) odI h.1 hy fun x => (h.2.mem_iff).trans hp.mem_iff.symm]
theorem later_not {l ys : List Kc} {frm : Int} (hp : ys.Perm (due frm l)) (hy : ¬ (ys.map Kc.t).Nodup) : laterG frm [] l = none := by
  cases hq : laterG frm [] l with
  | none => rfl
  | some S =>
    have h := laterG_some List.Pairwise.nil hq
    rw [List.nil_append] at h
    exact absurd ((List.Perm.nodup_iff ((h.2.trans hp.symm).map Kc.t)).1 (risT_nodup h.1)) hy
/-! ### Has each a time of its own? -/
def tmAt (l : List Kc) (i : Nat) : Bool := decide (i = 0) || match l[i]?, l[i - 1]? with
  | some a, some b => !decide (a.t = b.t)
  | _, _ => true
def tmTo (l : List Kc) (n : Nat) : Bool := (List.range n).all (tmAt l)
theorem tmTo_succ (l : List Kc) (n : Nat) : tmTo l (n + 1) = (tmTo l n && tmAt l n) := by unfold tmTo; rw [List.range_succ, List.all_append]; simp
theorem tmTo_bad {l : List Kc} {n : Nat} (h : n < l.length) (hb : tmAt l n = false) : tmTo l l.length = false := by
  unfold tmTo
  rw [List.all_eq_false]
  exact ⟨n, List.mem_range.2 h, by rw [hb]; simp⟩
theorem tm_ris {l : List Kc} (hs : l.Pairwise fun a b => a.t ≤ b.t) (h : tmTo l l.length = true) : RisT l := by
  have hs' := List.pairwise_iff_getElem.1 hs
  refine List.pairwise_iff_getElem.2 fun i j hi hj hij => ?_
  have h1 := List.all_eq_true.1 h j (List.mem_range.2 hj)
  unfold tmAt at h1
  rw [List.getElem?_eq_getElem hj, List.getElem?_eq_getElem (show j - 1 < l.length by omega)] at h1
  simp only [Bool.or_eq_true, decide_eq_true_eq, Bool.not_eq_true', decide_eq_false_iff_not] at h1
  have h2 : l[j - 1].t ≤ l[j].t := hs' (j - 1) j (by omega) hj (by omega)
  have h3 : l[i].t ≤ l[j - 1].t := by
    rcases Nat.lt_or_ge i (j - 1) with q | q
    · exact hs' i (j - 1) hi (by omega) q
    · have : i = j - 1 := by omega
      subst this
      exact Int.le_refl _
  rcases h1 with q | q
  · omega
  · omega
theorem tm_not {l : List Kc} (h : tmTo l l.length = false) : ¬ (l.map Kc.t).Nodup := by
  unfold tmTo at h
  rw [List.all_eq_false] at h
  obtain ⟨j, hj, hb⟩ := h
  rw [List.mem_range] at hj
  unfold tmAt at hb
  rw [List.getElem?_eq_getElem hj, List.getElem?_eq_getElem (show j - 1 < l.length by omega)] at hb
  simp only [Bool.or_eq_true, decide_eq_true_eq, Bool.not_eq_true', decide_eq_false_iff_not, not_or, Decidable.not_not] at hb
  intro hn
  have hp := List.pairwise_iff_getElem.1 (List.pairwise_map.1 hn) (j - 1) j (by omega) hj (by omega)
  exact hp hb.2.symm
/-- Times that were found to be of their own, or not. -/
theorem later_tm {l ys : List Kc} {frm : Int} (hp : ys.Perm (due frm l)) (hs : ys.Pairwise fun a b => a.t ≤ b.t) : laterG frm [] l = if tmTo ys ys.length then some ys else none := by
  cases h : tmTo ys ys.length with
  | true => rw [if_pos rfl]; exact later_is hp (tm_ris hs h)
  | false => rw [if_neg (by simp)]; exact later_not hp (tm_not h)
def lastT (frm : Int) (S : List Kc) : Int := S.foldl (fun _ c => c.t) frm
theorem lastT_take {frm : Int} {cs : List Kc} {k : Nat} {c : Kc} (h : cs[k]? = some c) : lastT frm (cs.take (k + 1)) = c.t := by
  rw [ML.take_snoc h]; unfold lastT; rw [List.foldl_append]; rfl

/-! ### Replay -/
def allC (l : List Kc) : Bool := l.all fun c => rightC c.cm
def rplD (L : List Ro) (frm : Int) (l : List Kc) : Option (List Ro × Int) :=
  if okTo L L.length && allC l then (laterG frm [] l).map fun S => (doneC L S, lastT frm S) else none
end Go.Proofs.Ytheidhkmmihjlaa
