/-
  Rl0: What commits leave of rows by rising keys, without memory; commits by their times.
-/
import Derived.Test.YtheidhkmmihjlaaDo8
import Derived.Test.YtheidhkmmihjlaaDo11
import Derived.Test.YtheidhkmmihjlaaDo12
import Derived.Sort.KeysCollected
set_option linter.unusedVariables false
set_option linter.unusedSimpArgs false
namespace Go.Proofs.Ytheidhkmmihjlaa
open Go.RowKit
open ML (Ro Srt nless fstOf Fst strLit strLit_inj setL setL_same setL_other delL delL_same delL_other od nl_irr nl_tr nl_tot)

/-- A commit as it lies in memory: its time, the slice of its writes, and what these are. -/
structure Kc where
  t : Int
  ao : Option Addr
  len : Nat
  cap : Nat
  ws : List Wr
abbrev roW (r : Ro) : Rw := ⟨r.k, r.v, r.t⟩

/-! ### Rows behind writes -/
def newR (w : Wr) (t : Int) : List Ro := if w.gone then [] else [⟨w.key, w.val, t⟩]
def cutK (s : ByteArray) : List Ro → List Ro
  | [] => []
  | a :: l => if a.k = s then l else a :: l
theorem cutK_cons (s : ByteArray) (a : Ro) (l : List Ro) : cutK s (a :: l) = if a.k = s then l else a :: l := rfl
def doneD (l : List Ro) (w : Wr) (t : Int) : List Ro := l.takeWhile (fun r => nless r.k w.key) ++ (newR w t ++ cutK w.key (l.dropWhile fun r => nless r.k w.key))
theorem doneD_nil (w : Wr) (t : Int) : doneD [] w t = newR w t := by simp [doneD, cutK]
theorem doneD_cons (a : Ro) (l : List Ro) (w : Wr) (t : Int) : doneD (a :: l) w t = if nless a.k w.key = true then a :: doneD l w t else newR w t ++ cutK w.key (a :: l) := by
  unfold doneD
  cases h : nless a.k w.key with
  | true => simp [List.takeWhile_cons, List.dropWhile_cons, h]
  | false => simp [List.takeWhile_cons, List.dropWhile_cons, h]
theorem newR_mem {w : Wr} {t : Int} {x : Ro} : x ∈ newR w t ↔ w.gone = false ∧ x = ⟨w.key, w.val, t⟩ := by
  unfold newR
  cases w.gone <;> simp
theorem srt_cons {a : Ro} {l : List Ro} : Srt (a :: l) ↔ (∀ z ∈ l, nless a.k z.k = true) ∧ Srt l := List.pairwise_cons
theorem cutK_mem {s : ByteArray} {a : Ro} {l : List Ro} (h : Srt (a :: l)) (hn : nless a.k s = false) {x : Ro} : x ∈ cutK s (a :: l) ↔ x ∈ a :: l ∧ x.k ≠ s := by
  have h' := srt_cons.1 h
  have far : ∀ z ∈ l, z.k ≠ s := fun z hz e => by have := h'.1 z hz; rw [e, hn] at this; cases this
  rw [cutK_cons]
  split
  · next e =>
    constructor
    · intro q; exact ⟨List.mem_cons_of_mem _ q, far x q⟩
    · rintro ⟨q, n⟩
      rcases List.mem_cons.1 q with p | p
      · rw [p] at n; exact absurd e n
      · exact p
  · next e =>
    constructor
    · intro q
      refine ⟨q, ?_⟩
      rcases List.mem_cons.1 q with p | p
      · rw [p]; exact e
      · exact far x p
    · rintro ⟨q, _⟩; exact q
theorem doneD_mem : ∀ {l : List Ro}, Srt l → ∀ {w : Wr} {t : Int} {x : Ro}, x ∈ doneD l w t ↔ x ∈ newR w t ∨ x ∈ l ∧ x.k ≠ w.key := by
  intro l
  induction l with
  | nil => intro _ w t x; rw [doneD_nil]; simp
  | cons a l ih =>
    intro h w t x
    have h' := srt_cons.1 h
    rw [doneD_cons]
    cases hn : nless a.k w.key with
    | true =>
      rw [if_pos rfl, List.mem_cons, ih h'.2, List.mem_cons]
      have ha : a.k ≠ w.key := fun e => by rw [e, nl_irr] at hn; cases hn
      constructor
      · rintro (p | p | p)
        · exact .inr ⟨.inl p, by rw [p]; exact ha⟩
        · exact .inl p
        · exact .inr ⟨.inr p.1, p.2⟩
      · rintro (p | ⟨p | p, e⟩)
        · exact .inr (.inl p)
        · exact .inl p
        · exact .inr (.inr ⟨p, e⟩)
    | false =>
      rw [if_neg (by simp), List.mem_append, cutK_mem h hn]
theorem cutK_srt {s : ByteArray} {l : List Ro} (h : Srt l) : Srt (cutK s l) := by
  cases l with
  | nil => exact h
  | cons a l =>
    rw [cutK_cons]
    split
    · exact (srt_cons.1 h).2
    · exact h
theorem doneD_srt : ∀ {l : List Ro}, Srt l → ∀ {w : Wr} {t : Int}, Srt (doneD l w t) := by
  intro l
  induction l with
  | nil =>
    intro _ w t
    rw [doneD_nil]
    unfold newR
    split
    · exact List.Pairwise.nil
    · exact List.pairwise_singleton _ _
  | cons a l ih =>
    intro h w t
    have h' := srt_cons.1 h
    rw [doneD_cons]
    cases hn : nless a.k w.key with
    | true =>
      rw [if_pos rfl]
      refine srt_cons.2 ⟨fun z hz => ?_, ih h'.2⟩
      rcases (doneD_mem h'.2).1 hz with p | p
      · rw [(newR_mem.1 p).2]; exact hn
      · exact h'.1 z p.1
    | false =>
      rw [if_neg (by simp)]
      have hc := cutK_srt (s := w.key) h
      unfold newR
      split
      · exact hc
      · refine srt_cons.2 ⟨fun z hz => ?_, hc⟩
        have hz' := (cutK_mem h hn).1 hz
        show nless w.key z.k = true
        have hle : nless w.key a.k = true ∨ w.key = a.k := by
          rcases nl_tot w.key a.k with q | q | q
          · exact .inl q
          · exact .inr q
          · rw [hn] at q; cases q
        rcases List.mem_cons.1 hz'.1 with p | p
        · rcases hle with q | q
          · rw [p]; exact q
          · rw [p] at hz'; exact absurd q.symm hz'.2
        · have hz2 := h'.1 z p
          rcases hle with q | q
          · exact nl_tr q hz2
          · rw [q]; exact hz2
def doneW (t : Int) (L : List Ro) (ws : List Wr) : List Ro := ws.foldl (fun l w => doneD l w t) L
theorem doneW_srt {t : Int} : ∀ {ws : List Wr} {L : List Ro}, Srt L → Srt (doneW t L ws)
  | [], _, h => h
  | w :: ws, L, h => doneW_srt (ws := ws) (L := doneD L w t) (doneD_srt h)
theorem doneW_take {t : Int} {L : List Ro} {ws : List Wr} {k : Nat} {w : Wr} (h : ws[k]? = some w) : doneW t L (ws.take (k + 1)) = doneD (doneW t L (ws.take k)) w t := by
  rw [ML.take_snoc h]; unfold doneW; rw [List.foldl_append]; rfl
theorem doneD_len (l : List Ro) (w : Wr) (t : Int) : (doneD l w t).length ≤ l.length + 1 := by
  unfold doneD
  rw [List.length_append, List.length_append]
  have h1 : (newR w t).length ≤ 1 := by unfold newR; split <;> simp
  have h2 : (cutK w.key (l.dropWhile fun r => nless r.k w.key)).length ≤ (l.dropWhile fun r => nless r.k w.key).length := by
    cases l.dropWhile fun r => nless r.k w.key with
    | nil => exact Nat.le_refl _
    | cons a m => rw [cutK_cons]; split <;> simp
  have h3 : l.length = (l.takeWhile fun r => nless r.k w.key).length + (l.dropWhile fun r => nless r.k w.key).length := by
    rw [← List.length_append, List.takeWhile_append_dropWhile]
  omega
theorem doneW_len {t : Int} : ∀ (ws : List Wr) (L : List Ro), (doneW t L ws).length ≤ L.length + ws.length
  | [], L => Nat.le_refl _
  | w :: ws, L => by
    have h1 := doneW_len (t := t) ws (doneD L w t)
    have h2 := doneD_len L w t
    show (doneW t (doneD L w t) ws).length ≤ _
    simp only [List.length_cons]
    omega
/-- How many writes commits have. -/
def cnt (cs : List Kc) : Nat := (cs.map fun c => c.ws.length).sum
/-! ### A map of such rows -/
def Fm (L : List Ro) (f : Lit → Option Value) : Prop := ∀ l v, f l = some v ↔ ∃ r ∈ L, l = strLit r.k ∧ v = r.val
theorem fst_iff {L : List Ro} (hs : Srt L) {s : ByteArray} {r : Ro} : fstOf L s = some r ↔ r ∈ L ∧ r.k = s := by
  unfold fstOf
  constructor
  · intro h
    exact ⟨List.mem_of_find?_eq_some h, by simpa using List.find?_some h⟩
  · rintro ⟨h1, h2⟩
    cases hq : L.find? fun r => decide (r.k = s) with
    | none =>
      have := List.find?_eq_none.1 hq r h1
      simp [h2] at this
    | some r' =>
      have m1 := List.mem_of_find?_eq_some hq
      have m2 : r'.k = s := by simpa using List.find?_some hq
      rw [Ck.Ris.inj od hs m1 h1 (by rw [m2, h2])]
theorem Fm.fst {L : List Ro} {f : Lit → Option Value} (hs : Srt L) (h : Fm L f) : Fst L f := by
  refine ⟨fun l v q => (h l v).1 q, fun s => ?_⟩
  cases hq : fstOf L s with
  | none =>
    cases hf : f (strLit s) with
    | none => rfl
    | some v =>
      obtain ⟨r, hr, e1, e2⟩ := (h _ _).1 hf
      have := (fst_iff hs).2 ⟨hr, (strLit_inj e1).symm⟩
      rw [hq] at this; cases this
  | some r =>
    have hr := (fst_iff hs).1 hq
    exact (h _ _).2 ⟨r, hr.1, by rw [hr.2], rfl⟩
theorem Fm.nil : Fm [] (fun _ => none) := fun l v => ⟨(nomatch ·), fun ⟨r, hr, _⟩ => by cases hr⟩
theorem Fm.snoc {L : List Ro} {f : Lit → Option Value} {x : Ro} (h : Fm L f) (hx : ∀ r ∈ L, r.k ≠ x.k) : Fm (L ++ [x]) (setL f (strLit x.k) x.val) := by
  intro l v
  by_cases e : l = strLit x.k
  · rw [e, setL_same]
    constructor
    · intro q; exact ⟨x, by simp, rfl, (Option.some.inj q).symm⟩
    · rintro ⟨r, hr, e1, e2⟩
      rcases List.mem_append.1 hr with q | q
      · exact absurd (strLit_inj e1).symm (hx r q)
      · simp at q; rw [e2, q]
  · rw [setL_other e, h]
    constructor
    · rintro ⟨r, hr, q⟩; exact ⟨r, by simp [hr], q⟩
    · rintro ⟨r, hr, q1, q2⟩
      rcases List.mem_append.1 hr with p | p
      · exact ⟨r, p, q1, q2⟩
      · simp at p; rw [p] at q1; exact absurd q1 e
theorem Fm.put {L : List Ro} {f : Lit → Option Value} {w : Wr} {t : Int} (hs : Srt L) (h : Fm L f) (hg : w.gone = false) : Fm (doneD L w t) (setL f (strLit w.key) (Ro.val ⟨w.key, w.val, t⟩)) := by
  intro l v
  by_cases e : l = strLit w.key
  · rw [e, setL_same]
    constructor
    · intro q; exact ⟨⟨w.key, w.val, t⟩, (doneD_mem hs).2 (.inl (newR_mem.2 ⟨hg, rfl⟩)), rfl, (Option.some.inj q).symm⟩
    · rintro ⟨r, hr, e1, e2⟩
      rcases (doneD_mem hs).1 hr with q | q
      · rw [e2, (newR_mem.1 q).2]
      · exact absurd (strLit_inj e1).symm q.2
  · rw [setL_other e, h]
    constructor
    · rintro ⟨r, hr, q1, q2⟩; exact ⟨r, (doneD_mem hs).2 (.inr ⟨hr, fun z => e (by rw [q1, z])⟩), q1, q2⟩
    · rintro ⟨r, hr, q1, q2⟩
      rcases (doneD_mem hs).1 hr with q | q
      · rw [(newR_mem.1 q).2] at q1; exact absurd q1 e
      · exact ⟨r, q.1, q1, q2⟩
theorem Fm.del {L : List Ro} {f : Lit → Option Value} {w : Wr} {t : Int} (hs : Srt L) (h : Fm L f) (hg : w.gone = true) : Fm (doneD L w t) (delL f (strLit w.key)) := by
  intro l v
  by_cases e : l = strLit w.key
  · rw [e, delL_same]
    constructor
    · intro q; cases q
    · rintro ⟨r, hr, e1, e2⟩
      rcases (doneD_mem hs).1 hr with q | q
      · have := (newR_mem.1 q).1; rw [hg] at this; cases this
      · exact absurd (strLit_inj e1).symm q.2
  · rw [delL_other e, h]
    constructor
    · rintro ⟨r, hr, q1, q2⟩; exact ⟨r, (doneD_mem hs).2 (.inr ⟨hr, fun z => e (by rw [q1, z])⟩), q1, q2⟩
    · rintro ⟨r, hr, q1, q2⟩
      rcases (doneD_mem hs).1 hr with q | q
      · have := (newR_mem.1 q).1; rw [hg] at this; cases this
      · exact ⟨r, q.1, q1, q2⟩
/-! ### Are rows right, and do they rise? -/
def okAt (L : List Ro) (i : Nat) : Bool := match L[i]? with
  | none => true
  | some r => rightR (roW r) && (decide (i = 0) || match L[i - 1]? with | none => true | some p => nless p.k r.k)
def okTo (L : List Ro) (n : Nat) : Bool := (List.range n).all (okAt L)
theorem okTo_succ (L : List Ro) (n : Nat) : okTo L (n + 1) = (okTo L n && okAt L n) := by unfold okTo; rw [List.range_succ, List.all_append]; simp
theorem okTo_bad {L : List Ro} {n : Nat} (h : n < L.length) (hb : okAt L n = false) : okTo L L.length = false := by
  unfold okTo
  rw [List.all_eq_false]
  exact ⟨n, List.mem_range.2 h, by rw [hb]; simp⟩
theorem okTo_at {L : List Ro} (h : okTo L L.length = true) {i : Nat} (hi : i < L.length) : okAt L i = true := List.all_eq_true.1 h i (List.mem_range.2 hi)
theorem okTo_srt {L : List Ro} (h : okTo L L.length = true) : Srt L := by
  refine List.pairwise_iff_getElem.2 ?_
  intro i j hi hj hij
  induction j with
  | zero => omega
  | succ j ih =>
    have h1 := okTo_at h hj
    unfold okAt at h1
    rw [List.getElem?_eq_getElem hj] at h1
    simp only [Nat.add_sub_cancel] at h1
    rw [List.getElem?_eq_getElem (show j < L.length by omega)] at h1
    simp only [Nat.add_one_ne_zero, decide_false, Bool.false_or, Bool.and_eq_true] at h1
    rcases Nat.lt_or_ge i j with q | q
    · exact nl_tr (ih (by omega) q) h1.2
    · have : i = j := by omega
      subst this
      exact h1.2

/-! ### Commits by their times -/
/-! ### Has each a time of its own? -/
/-! ### Replay -/
end Go.Proofs.Ytheidhkmmihjlaa

/-
  Xm0: The model without memory: rows, a time, what a transaction has written; what a call is answered, and what it leaves.
-/
set_option linter.unusedVariables false
set_option linter.unusedSimpArgs false
namespace Go.Proofs.Ytheidhkmmihjlaa
open Go.RowKit
open ML (Ro Srt nless fstOf Fst strLit strLit_inj setL setL_same setL_other delL delL_same delL_other od nl_irr nl_tr nl_tot)

instance : DecidableEq Wr := fun a b => if h : a.key = b.key ∧ a.val = b.val ∧ a.gone = b.gone then isTrue (by cases a; cases b; simp_all) else isFalse (by rintro rfl; simp at h)
abbrev SrtW (l : List Wr) : Prop := Ck.Ris (fun a b : ByteArray => nless a b = true) Wr.key l
/-- A model: rows, its time, what its transaction has written, if there is one. -/
structure Ms where
  L : List Ro
  t : Int
  ws : Option (List Wr)
/-- A call. -/
structure Cl where
  kind : Int
  mode : Int
  key : ByteArray
  high : ByteArray
  val : ByteArray
  draw : Int
  n : Int
/-- A reply. -/
structure Rp where
  code : Int := 0
  val : ByteArray := .empty
  found : Bool := false
  rows : List Ro := []
  time : Int := 0
def wOf (ws : List Wr) (k : ByteArray) : Option Wr := ws.find? fun w => decide (w.key = k)
def look (S : Ms) (k : ByteArray) : Option ByteArray := match wOf (S.ws.getD []) k with
  | some w => if w.gone then none else some w.val
  | none => (fstOf S.L k).map Ro.v
def putW (ws : List Wr) (w : Wr) : List Wr := Ck.put (fun a b : ByteArray => nless a b = true) Wr.key w ws
def wrt (S : Ms) (w : Wr) : Ms × Rp :=
  if (wOf (S.ws.getD []) w.key).isNone ∧ (S.ws.getD []).length = 64 then (⟨S.L, S.t, none⟩, { code := 160 }) else (⟨S.L, S.t, some (putW (S.ws.getD []) w)⟩, {})
def cmt (S : Ms) : Ms × Rp :=
  if isT (S.t + 1) then (⟨doneW (S.t + 1) S.L (S.ws.getD []), S.t + 1, none⟩, { time := S.t + 1 }) else (⟨S.L, S.t, none⟩, { code := 161 })
def zt (r : Ro) : Ro := ⟨r.k, r.v, 0⟩
/-- What is there for the transaction. -/
def now (S : Ms) : List Ro := doneW 0 (S.L.map zt) (S.ws.getD [])
def ins (lo hi : ByteArray) (r : Ro) : Bool := !nless r.k lo && (decide (hi.size = 0) || nless r.k hi)
def scn (S : Ms) (lo hi : ByteArray) : List Ro := (now S).filter (ins lo hi)
def fst0 : List (Bool × Int) → Int
  | [] => 0
  | (b, e) :: r => if b then e else fst0 r
def badM (c : Cl) : Bool := c.mode != 1 && c.mode != 2
def badS (c : Cl) : Bool := decide (16 < c.key.size) || decide (16 < c.high.size)
/-- What may be wrong with a call of the n-th kind, in order. -/
def wrg (S : Ms) (c : Cl) : Nat → List (Bool × Int)
  | 1 => [(S.ws.isSome, 153), (badM c, 151)]
  | 2 => [(S.ws.isNone, 152), (!isK c.key, 154)]
  | 3 => [(S.ws.isNone, 152), (badS c, 154)]
  | 4 => [(S.ws.isNone, 152), (!isK c.key, 154), (!isV c.val, 155), ((look S c.key).isSome, 156)]
  | 5 => [(S.ws.isNone, 152), (!isK c.key, 154), (!isV c.val, 155), (!(look S c.key).isSome, 157)]
  | 6 => [(S.ws.isNone, 152), (!isK c.key, 154), (!(look S c.key).isSome, 157)]
  | 7 => [(S.ws.isNone, 152)]
  | 8 => [(S.ws.isNone, 152)]
  | _ => [(S.ws.isSome, 153)]
def ans (S : Ms) (c : Cl) : Nat → Ms × Rp
  | 1 => (⟨S.L, S.t, some []⟩, {})
  | 2 => (S, { val := (look S c.key).getD .empty, found := (look S c.key).isSome })
  | 3 => (S, { rows := scn S c.key c.high })
  | 4 => wrt S ⟨c.key, c.val, false⟩
  | 5 => wrt S ⟨c.key, c.val, false⟩
  | 6 => wrt S ⟨c.key, .empty, true⟩
  | 7 => cmt S
  | 8 => (⟨S.L, S.t, none⟩, {})
  | _ => (S, {})
def stp (S : Ms) (c : Cl) : Ms × Rp :=
  if c.kind < 1 ∨ 11 < c.kind then (S, { code := 151 })
  else if fst0 (wrg S c c.kind.toNat) = 0 then ans S c c.kind.toNat else (S, { code := fst0 (wrg S c c.kind.toNat) })

/-! ### Right ones -/
structure Ms.ok (S : Ms) : Prop where
  srt : Srt S.L
  rows : ∀ r ∈ S.L, rightR (roW r) = true
  tm : isT S.t = true
  wsrt : ∀ ws, S.ws = some ws → SrtW ws ∧ ws.length ≤ 64 ∧ ∀ w ∈ ws, okW w = true
theorem isK_iff {s : ByteArray} : isK s = true ↔ 1 ≤ s.size ∧ s.size ≤ 16 := by simp [isK]
theorem isV_iff {s : ByteArray} : isV s = true ↔ s.size ≤ 64 := by simp [isV]
theorem isT_iff {t : Int} : isT t = true ↔ 0 ≤ t ∧ t ≤ 1099511627775 := by simp [isT]
theorem okW_iff {w : Wr} : okW w = true ↔ (1 ≤ w.key.size ∧ w.key.size ≤ 16) ∧ w.val.size ≤ 64 ∧ (w.gone = true → w.val.size = 0) := by
  unfold okW
  cases w.gone <;> simp [isK, isV, and_assoc]
theorem rightR_iff {r : Ro} : rightR (roW r) = true ↔ (1 ≤ r.k.size ∧ r.k.size ≤ 16) ∧ r.v.size ≤ 64 ∧ 0 ≤ r.t ∧ r.t ≤ 1099511627775 := by
  simp [rightR, isK, isV, isT, and_assoc]
theorem SrtW.inj {ws : List Wr} (h : SrtW ws) {a b : Wr} (ha : a ∈ ws) (hb : b ∈ ws) (e : a.key = b.key) : a = b := Ck.Ris.inj od h ha hb e
theorem wOf_some {ws : List Wr} (hs : SrtW ws) {k : ByteArray} {w : Wr} : wOf ws k = some w ↔ w ∈ ws ∧ w.key = k := by
  unfold wOf
  constructor
  · intro h; exact ⟨List.mem_of_find?_eq_some h, by simpa using List.find?_some h⟩
  · rintro ⟨h1, h2⟩
    cases hq : ws.find? fun w => decide (w.key = k) with
    | none =>
      have := List.find?_eq_none.1 hq w h1
      simp [h2] at this
    | some r' =>
      have m1 := List.mem_of_find?_eq_some hq
      have m2 : r'.key = k := by simpa using List.find?_some hq
      rw [hs.inj m1 h1 (by rw [m2, h2])]
theorem wOf_none {ws : List Wr} {k : ByteArray} : wOf ws k = none ↔ ∀ w ∈ ws, w.key ≠ k := by
  unfold wOf
  rw [List.find?_eq_none]
  simp
theorem putW_mem {ws : List Wr} (hs : SrtW ws) {w x : Wr} : x ∈ putW ws w ↔ x = w ∨ x ∈ ws ∧ x.key ≠ w.key := Ck.mem_put od hs
theorem putW_srt {ws : List Wr} (hs : SrtW ws) (w : Wr) : SrtW (putW ws w) := Ck.put_ris od hs
theorem put_len : ∀ (ws : List Wr) (w : Wr), (putW ws w).length ≤ ws.length + 1
  | [], w => by simp [putW, Ck.put]
  | a :: l, w => by
    have h := put_len l w
    unfold putW at h ⊢
    unfold Ck.put
    split
    · simp only [List.length_cons]; omega
    · split <;> simp
theorem put_len_same : ∀ {ws : List Wr} {w : Wr}, SrtW ws → (∃ x ∈ ws, x.key = w.key) → (putW ws w).length = ws.length
  | [], w, _, h => by obtain ⟨x, hx, _⟩ := h; cases hx
  | a :: l, w, hs, h => by
    have h' := List.pairwise_cons.1 hs
    unfold putW
    unfold Ck.put
    split
    · next q =>
      have := put_len_same (ws := l) (w := w) h'.2 (by
        obtain ⟨x, hx, e⟩ := h
        rcases List.mem_cons.1 hx with p | p
        · rw [p] at e; rw [e, nl_irr] at q; cases q
        · exact ⟨x, p, e⟩)
      unfold putW at this
      simp only [List.length_cons, this]
    · next q =>
      split
      · simp
      · next e =>
        obtain ⟨x, hx, e2⟩ := h
        rcases List.mem_cons.1 hx with p | p
        · rw [p] at e2; exact absurd e2 e
        · have := h'.1 x p; rw [e2] at this; exact absurd this q

/-! ### Rows behind writes, whatever their order -/
def Kd (ws : List Wr) : Prop := ws.Pairwise fun a b => a.key ≠ b.key
theorem SrtW.kd {ws : List Wr} (h : SrtW ws) : Kd ws := h.imp fun {a b} q e => by rw [e, nl_irr] at q; cases q
theorem Kd.perm {ws ws' : List Wr} (h : Kd ws) (p : ws.Perm ws') : Kd ws' := List.Perm.pairwise p h fun {a b} q e => q e.symm
theorem doneW_mem {t : Int} : ∀ {ws : List Wr} {L : List Ro}, Srt L → Kd ws → ∀ {x : Ro}, x ∈ doneW t L ws ↔ (∃ w ∈ ws, w.gone = false ∧ x = ⟨w.key, w.val, t⟩) ∨ (x ∈ L ∧ ∀ w ∈ ws, x.k ≠ w.key)
  | [], L, _, _, x => by simp [doneW]
  | w :: ws, L, hs, hk, x => by
    have hk' := List.pairwise_cons.1 hk
    have ih := doneW_mem (t := t) (ws := ws) (L := doneD L w t) (doneD_srt hs) hk'.2 (x := x)
    show x ∈ doneW t (doneD L w t) ws ↔ _
    rw [ih, doneD_mem hs, newR_mem]
    constructor
    · rintro (⟨v, hv, p⟩ | ⟨⟨p1, p2⟩ | ⟨p1, p2⟩, q⟩)
      · exact .inl ⟨v, List.mem_cons_of_mem _ hv, p⟩
      · exact .inl ⟨w, List.mem_cons_self, p1, p2⟩
      · exact .inr ⟨p1, fun v hv => by
          rcases List.mem_cons.1 hv with e | e
          · rw [e]; exact p2
          · exact q v e⟩
    · rintro (⟨v, hv, p1, p2⟩ | ⟨p, q⟩)
      · rcases List.mem_cons.1 hv with e | e
        · subst e
          exact .inr ⟨.inl ⟨p1, p2⟩, fun v hv => by rw [p2]; exact hk'.1 v hv⟩
        · exact .inl ⟨v, e, p1, p2⟩
      · exact .inr ⟨.inr ⟨p, q w List.mem_cons_self⟩, fun v hv => q v (List.mem_cons_of_mem _ hv)⟩
theorem doneW_perm {t : Int} {ws ws' : List Wr} {L : List Ro} (hs : Srt L) (hk : Kd ws) (p : ws.Perm ws') : doneW t L ws = doneW t L ws' := by
  refine Ck.Ris.eq od (doneW_srt hs) (doneW_srt hs) fun x => ?_
  rw [doneW_mem hs hk, doneW_mem hs (hk.perm p)]
  constructor
  · rintro (⟨w, hw, q⟩ | ⟨q1, q2⟩)
    · exact .inl ⟨w, p.mem_iff.1 hw, q⟩
    · exact .inr ⟨q1, fun w hw => q2 w (p.mem_iff.2 hw)⟩
  · rintro (⟨w, hw, q⟩ | ⟨q1, q2⟩)
    · exact .inl ⟨w, p.mem_iff.2 hw, q⟩
    · exact .inr ⟨q1, fun w hw => q2 w (p.mem_iff.1 hw)⟩
theorem zt_srt {L : List Ro} (h : Srt L) : Srt (L.map zt) := List.pairwise_map.2 h
theorem Ms.ok.kd {S : Ms} (h : S.ok) : SrtW (S.ws.getD []) := by
  cases hw : S.ws with
  | none => exact List.Pairwise.nil
  | some ws => exact (h.wsrt ws hw).1
theorem now_srt {S : Ms} (h : S.ok) : Srt (now S) := doneW_srt (zt_srt h.srt)
theorem scn_srt {S : Ms} (h : S.ok) {lo hi : ByteArray} : Srt (scn S lo hi) := List.Pairwise.filter _ (now_srt h)
theorem now_mem {S : Ms} (h : S.ok) {x : Ro} : x ∈ now S ↔ x.t = 0 ∧ look S x.k = some x.v := by
  unfold now
  rw [doneW_mem (zt_srt h.srt) h.kd.kd]
  unfold look
  constructor
  · rintro (⟨w, hw, hg, rfl⟩ | ⟨hx, hn⟩)
    · refine ⟨rfl, ?_⟩
      rw [(wOf_some h.kd).2 ⟨hw, rfl⟩]
      simp [hg]
    · obtain ⟨r, hr, rfl⟩ := List.mem_map.1 hx
      refine ⟨rfl, ?_⟩
      rw [wOf_none.2 fun w hw e => hn w hw e.symm]
      show (fstOf S.L r.k).map Ro.v = some r.v
      rw [(fst_iff h.srt).2 ⟨hr, rfl⟩]
      rfl
  · rintro ⟨h0, hl⟩
    cases hq : wOf (S.ws.getD []) x.k with
    | some w =>
      rw [hq] at hl
      obtain ⟨hw, hk⟩ := (wOf_some h.kd).1 hq
      cases hg : w.gone with
      | true => simp [hg] at hl
      | false =>
        simp [hg] at hl
        exact .inl ⟨w, hw, hg, by cases x; simp_all⟩
    | none =>
      rw [hq] at hl
      have hn := wOf_none.1 hq
      obtain ⟨r, hr, hv⟩ := Option.map_eq_some_iff.1 hl
      obtain ⟨hr1, hr2⟩ := (fst_iff h.srt).1 hr
      exact .inr ⟨List.mem_map.2 ⟨r, hr1, by cases x; cases r; simp_all [zt]⟩, fun w hw e => hn w hw e.symm⟩
theorem scn_mem {S : Ms} (h : S.ok) {lo hi : ByteArray} {x : Ro} : x ∈ scn S lo hi ↔ (x.t = 0 ∧ look S x.k = some x.v) ∧ ins lo hi x = true := by
  unfold scn
  rw [List.mem_filter, now_mem h]

/-! ### What is right stays so -/
theorem wrt_ok {S : Ms} (h : S.ok) {w : Wr} (hw : okW w = true) : (wrt S w).1.ok := by
  unfold wrt
  split
  · exact ⟨h.srt, h.rows, h.tm, fun ws q => by cases q⟩
  · next hn =>
    refine ⟨h.srt, h.rows, h.tm, fun ws q => ?_⟩
    cases q
    have hS := h.kd
    have hl : (S.ws.getD []).length ≤ 64 := by
      cases hw : S.ws with
      | none => simp
      | some ws => exact (h.wsrt ws hw).2.1
    have hr : ∀ w ∈ S.ws.getD [], okW w = true := by
      cases hw : S.ws with
      | none => simp
      | some ws => exact (h.wsrt ws hw).2.2
    refine ⟨putW_srt hS w, ?_, fun x hx => ?_⟩
    · cases hq : wOf (S.ws.getD []) w.key with
      | none =>
        have := put_len (S.ws.getD []) w
        have h2 : (S.ws.getD []).length ≠ 64 := fun e => hn ⟨by rw [hq]; rfl, e⟩
        omega
      | some x =>
        obtain ⟨h1, h2⟩ := (wOf_some hS).1 hq
        rw [put_len_same hS ⟨x, h1, h2⟩]
        exact hl
    · rcases (putW_mem hS).1 hx with e | e
      · rw [e]; exact hw
      · exact hr x e.1
theorem done_ok {t : Int} {L : List Ro} {ws : List Wr} (hs : Srt L) (hr : ∀ r ∈ L, rightR (roW r) = true) (ht : isT t = true) (hk : Kd ws) (hw : ∀ w ∈ ws, okW w = true) : (⟨doneW t L ws, t, none⟩ : Ms).ok := by
  refine ⟨doneW_srt hs, fun r q => ?_, ht, fun ws q => by cases q⟩
  rcases (doneW_mem hs hk).1 q with ⟨w, h1, h2, rfl⟩ | ⟨h1, _⟩
  · have := okW_iff.1 (hw w h1)
    have := isT_iff.1 ht
    exact rightR_iff.2 ⟨by simp_all, by simp_all, by simp_all⟩
  · exact hr r h1
theorem Ms.ok.ows {S : Ms} (h : S.ok) : ∀ w ∈ S.ws.getD [], okW w = true := by
  cases hw : S.ws with
  | none => simp
  | some ws => exact (h.wsrt ws hw).2.2
theorem Ms.ok.shut {S : Ms} (h : S.ok) : (⟨S.L, S.t, none⟩ : Ms).ok := ⟨h.srt, h.rows, h.tm, fun ws q => by cases q⟩
end Go.Proofs.Ytheidhkmmihjlaa

/-
  Xm1: The program's model in memory; its small functions; what may be wrong with a call, one function each.
-/
set_option linter.unusedVariables false
set_option linter.unusedSimpArgs false
namespace Go.Proofs.Ytheidhkmmihjlaa
open Go.RowKit Go.Shelf Go.Maps
open ML (Ro RS Srt nless fstOf Fst strLit strLit_inj setL setL_same setL_other delL delL_same delL_other od nl_irr nl_tr nl_tot Mg Rdg RVs strKeyed str_key turned_below zeroRo)
attribute [local go_sem] Oper.semAt_some

theorem xhide {p : Prop} (h : p) : Hid p := h
abbrev ptr (X : Nat) : Value := .pointer (some ⟨X, 0, none⟩)
abbrev Wr.w (x : Wr) : Value := .agg #[.string x.key, .string x.val, .bool x.gone]
def Fw (ws : List Wr) (g : Lit → Option Value) : Prop := ∀ l v, g l = some v ↔ ∃ x ∈ ws, l = strLit x.key ∧ v = x.w
theorem Fw.nil : Fw [] (fun _ => none) := fun l v => ⟨(nomatch ·), fun ⟨r, hr, _⟩ => by cases hr⟩
theorem Fw.put {ws : List Wr} {g : Lit → Option Value} (hs : SrtW ws) (h : Fw ws g) (x : Wr) : Fw (putW ws x) (setL g (strLit x.key) x.w) := by
  intro l v
  by_cases e : l = strLit x.key
  · rw [e, setL_same]
    constructor
    · intro q; exact ⟨x, (putW_mem hs).2 (.inl rfl), rfl, (Option.some.inj q).symm⟩
    · rintro ⟨r, hr, e1, e2⟩
      rcases (putW_mem hs).1 hr with q | q
      · rw [e2, q]
      · exact absurd (strLit_inj e1).symm q.2
  · rw [setL_other e, h]
    constructor
    · rintro ⟨r, hr, q1, q2⟩; exact ⟨r, (putW_mem hs).2 (.inr ⟨hr, fun z => e (by rw [q1, z])⟩), q1, q2⟩
    · rintro ⟨r, hr, q1, q2⟩
      rcases (putW_mem hs).1 hr with q | q
      · rw [q] at q1; exact absurd q1 e
      · exact ⟨r, q.1, q1, q2⟩
theorem Fw.at {ws : List Wr} {g : Lit → Option Value} (hs : SrtW ws) (h : Fw ws g) (k : ByteArray) : g (strLit k) = (wOf ws k).map Wr.w := by
  cases hq : wOf ws k with
  | some x =>
    obtain ⟨h1, h2⟩ := (wOf_some hs).1 hq
    exact (h _ _).2 ⟨x, h1, by rw [h2], rfl⟩
  | none =>
    cases hg : g (strLit k) with
    | none => rfl
    | some v =>
      obtain ⟨x, hx, e1, e2⟩ := (h _ _).1 hg
      exact absurd (strLit_inj e1).symm (wOf_none.1 hq x hx)

/-! ### How many stand in a map -/
theorem foldr_len {H : Type} : ∀ l : List (Lit × DataW H), (l.foldr DataW.insert []).length = l.length
  | [] => rfl
  | a :: l => by
    have h2 : ∀ (x : Lit × DataW H) (m : List (Lit × DataW H)), (DataW.insert x m).length = m.length + 1 := fun x m => by
      induction m with
      | nil => rfl
      | cons b m ih =>
        unfold DataW.insert
        split <;> simp_all
    rw [List.foldr_cons, h2, foldr_len l]; rfl
theorem own_tight {w : World} {b n : Nat} {D : DataW Value} (h : w.ownsMap Try.prog 9 RVs b n D) : w.ownsMap Try.prog 9 RVs b (Maps.size D) D := by
  obtain ⟨es, clock, hb, F, hs, rfl⟩ := h
  refine ⟨es, clock, hb, F, ?_, rfl⟩
  rw [Maps.size_eq, foldr_len]
  simp
theorem size_keys {w : World} {b n : Nat} {D : DataW Value} {f : Lit → Option Value} (h : w.ownsMap Try.prog 9 RVs b n D) (hr : Rdg D f) {ks : List ByteArray} (hn : ks.Nodup) (hk : ∀ k, (f (strLit k)).isSome = true ↔ k ∈ ks) : Maps.size D = ks.length := by
  obtain ⟨es, hD, hpw, _⟩ := h.entries strKeyed
  obtain ⟨es', hD', hko⟩ := h.keysOf
  obtain rfl : es = es' := by rw [hD] at hD'; simpa using hD'
  subst hD
  have hp := perm_strKeys (es := es) (ss := ks.map fun s => s.data.toList) hpw (fun p hp => by obtain ⟨v, hv⟩ := hko p hp; obtain ⟨x, _, hx, _⟩ := Maps.keyOf_str Try.underlying9 hv; exact ⟨x, hx⟩)
    (List.pairwise_map.2 (hn.imp fun {a b} q e => q (ByteArray.ext (Array.toList_inj.1 e)))) (fun x => by
      have hx : (⟨⟨x⟩⟩ : ByteArray).data.toList = x := rfl
      rw [List.mem_map]
      constructor
      · rintro ⟨s, hs, rfl⟩
        have := (hk s).2 hs
        cases hf : f (strLit s) with
        | none => rw [hf] at this; cases this
        | some v => exact (hr.yes _ _ hf).1
      · intro hh
        refine ⟨⟨⟨x⟩⟩, (hk _).1 ?_, rfl⟩
        cases hf : f (strLit ⟨⟨x⟩⟩) with
        | some v => rfl
        | none =>
          have := hr.no _ hf
          unfold strLit at this
          rw [hx, hh] at this; cases this)
  have := hp.length_eq
  rw [List.length_map] at this
  rw [this, Maps.size_eq]
  show es.length = (es.map _).length
  rw [List.length_map]
theorem srt_nd {L : List Ro} (h : Srt L) : (L.map Ro.k).Nodup := List.pairwise_map.2 (h.imp fun {a b} q e => by rw [e, nl_irr] at q; cases q)
theorem srtW_nd {L : List Wr} (h : SrtW L) : (L.map Wr.key).Nodup := List.pairwise_map.2 (h.imp fun {a b} q e => by rw [e, nl_irr] at q; cases q)
theorem fm_keys {L : List Ro} {f : Lit → Option Value} (h : Fm L f) (k : ByteArray) : (f (strLit k)).isSome = true ↔ k ∈ L.map Ro.k := by
  rw [List.mem_map]
  constructor
  · intro q
    obtain ⟨v, hv⟩ := Option.isSome_iff_exists.1 q
    obtain ⟨r, hr, e, _⟩ := (h _ _).1 hv
    exact ⟨r, hr, (strLit_inj e).symm⟩
  · rintro ⟨r, hr, rfl⟩
    rw [(h _ _).2 ⟨r, hr, rfl, rfl⟩]; rfl
theorem fw_keys {L : List Wr} {f : Lit → Option Value} (h : Fw L f) (k : ByteArray) : (f (strLit k)).isSome = true ↔ k ∈ L.map Wr.key := by
  rw [List.mem_map]
  constructor
  · intro q
    obtain ⟨v, hv⟩ := Option.isSome_iff_exists.1 q
    obtain ⟨r, hr, e, _⟩ := (h _ _).1 hv
    exact ⟨r, hr, (strLit_inj e).symm⟩
  · rintro ⟨r, hr, rfl⟩
    rw [(h _ _).2 ⟨r, hr, rfl, rfl⟩]; rfl
theorem Mg.tight {w : World} {b q : Nat} {L : List Ro} {f : Lit → Option Value} (h : Mg 9 w b f q) (hf : Fm L f) (hs : Srt L) : Mg 9 w b f L.length := by
  obtain ⟨D, ho, hr⟩ := h
  have e := size_keys ho hr (srt_nd hs) (fm_keys hf)
  rw [List.length_map] at e
  exact ⟨D, by rw [← e]; exact own_tight ho, hr⟩
theorem Mg.tightW {w : World} {b q : Nat} {L : List Wr} {f : Lit → Option Value} (h : Mg 9 w b f q) (hf : Fw L f) (hs : SrtW L) : Mg 9 w b f L.length := by
  obtain ⟨D, ho, hr⟩ := h
  have e := size_keys ho hr (srtW_nd hs) (fw_keys hf)
  rw [List.length_map] at e
  exact ⟨D, by rw [← e]; exact own_tight ho, hr⟩
theorem Mg.lenW {w : World} {b q : Nat} {L : List Wr} {f : Lit → Option Value} (h : Mg 9 w b f q) (hf : Fw L f) (hs : SrtW L) (ty : TypeId) :
    (Builtin.len_ #[64] ty #[.map (some b)]).run Try.prog w = .ok (.int .i64 L.length) w := by
  obtain ⟨D, ho, hr⟩ := h
  have e := size_keys ho hr (srtW_nd hs) (fw_keys hf)
  rw [List.length_map] at e
  rw [← e]
  exact ho.len Try.underlying64 ty

/-! ### What has changed -/
def Chg (s : Nat → Prop) (w w' : World) : Prop := Below 0 w w' ∧ ∀ j, j < w.heap.size → ¬ s j → w'.heap[j]? = w.heap[j]?
section
variable {s s' : Nat → Prop} {w w1 w2 : World}
theorem Chg.refl : Chg s w w := ⟨Below.refl _ _, fun _ _ _ => rfl⟩
theorem Chg.below (h : Below w.heap.size w w1) : Chg s w w1 := ⟨h.mono (Nat.zero_le _), fun j hj _ => h.block j hj⟩
theorem Chg.size (h : Chg s w w1) : w.heap.size ≤ w1.heap.size := h.1.size
theorem Chg.trans (h : Chg s w w1) (h2 : Chg s' w1 w2) (hs : ∀ j, j < w.heap.size → s' j → s j) : Chg s w w2 :=
  ⟨h.1.trans (h2.1.mono (Nat.zero_le _)), fun j hj n => (h2.2 j (Nat.lt_of_lt_of_le hj h.size) (fun q => n (hs j hj q))).trans (h.2 j hj n)⟩
theorem Chg.low (h : Chg s w w1) {B : Nat} (hB : B ≤ w.heap.size) (hs : ∀ j, s j → B ≤ j) : Below B w w1 :=
  ⟨h.1.os, h.1.tape, h.1.output, h.1.size, fun j hj => h.2 j (by omega) fun q => by have := hs j q; omega⟩
end
def Ex (X b : Nat) (c : Option Nat) (j : Nat) : Prop := j = X ∨ j = b ∨ c = some j

/-! ### The model in memory -/
def Wm (w : World) (c : Option Nat) : Option (List Wr) → Prop
  | none => c = none
  | some ws => ∃ c0 g, c = some c0 ∧ Mg 9 w c0 g ws.length ∧ Fw ws g
structure Pm (w : World) (X b : Nat) (c : Option Nat) (S : Ms) : Prop where
  blk : w.heap[X]? = some (.cells #[.map (some b), .int .i64 S.t, .map c] 66 (0, 0))
  ok : S.ok
  rm : ∃ f, Mg 9 w b f S.L.length ∧ Fm S.L f
  wm : Wm w c S.ws
  nb : X ≠ b
  nc : c ≠ some X
  nd : c ≠ some b
section
variable {w w' : World} {X b : Nat} {c : Option Nat} {S : Ms}
theorem Pm.lt (h : Pm w X b c S) : X < w.heap.size := (Array.getElem?_eq_some_iff.1 h.blk).1
theorem Pm.ltb (h : Pm w X b c S) : b < w.heap.size := by obtain ⟨f, hM, _⟩ := h.rm; exact hM.lt
theorem Pm.ltc (h : Pm w X b c S) {c0 : Nat} (e : c = some c0) : c0 < w.heap.size := by
  have := h.wm
  cases hw : S.ws with
  | none => rw [hw] at this; rw [show c = none from this] at e; cases e
  | some ws =>
    rw [hw] at this
    obtain ⟨c1, g, e1, hM, _⟩ := this
    rw [e1] at e; cases e
    exact hM.lt
theorem Wm.same {c : Option Nat} {o : Option (List Wr)} (h : Wm w c o) (e : ∀ c0, c = some c0 → w'.heap[c0]? = w.heap[c0]?) : Wm w' c o := by
  cases o with
  | none => exact h
  | some ws =>
    obtain ⟨c0, g, rfl, hM, hF⟩ := h
    exact ⟨c0, g, rfl, hM.same (e c0 rfl), hF⟩
theorem Pm.keep (h : Pm w X b c S) (h1 : w'.heap[X]? = w.heap[X]?) (h2 : w'.heap[b]? = w.heap[b]?) (h3 : ∀ c0, c = some c0 → w'.heap[c0]? = w.heap[c0]?) : Pm w' X b c S := by
  obtain ⟨f, hM, hF⟩ := h.rm
  exact ⟨h1.trans h.blk, h.ok, ⟨f, hM.same h2, hF⟩, h.wm.same h3, h.nb, h.nc, h.nd⟩
theorem Pm.below (h : Pm w X b c S) (hb : Below w.heap.size w w') : Pm w' X b c S :=
  h.keep (hb.block _ h.lt) (hb.block _ h.ltb) (fun c0 e => hb.block _ (h.ltc e))
theorem Pm.chg {s : Nat → Prop} (h : Pm w X b c S) (hc : Chg s w w') (hs : ∀ j, Ex X b c j → ¬ s j) : Pm w' X b c S :=
  h.keep (hc.2 _ h.lt (hs _ (.inl rfl))) (hc.2 _ h.ltb (hs _ (.inr (.inl rfl)))) (fun c0 e => hc.2 _ (h.ltc e) (hs _ (.inr (.inr e))))
theorem Pm.cells (h : Pm w X b c S) : w.cell? ⟨X, 0, none⟩ = some (.map (some b)) ∧ w.cell? ⟨X, 1, none⟩ = some (.int .i64 S.t) ∧ w.cell? ⟨X, 2, none⟩ = some (.map c) := by
  refine ⟨?_, ?_, ?_⟩ <;> (rw [Go.Joins.cell_of_block h.blk]; rfl)
theorem Pm.ex_lt (h : Pm w X b c S) {j : Nat} (e : Ex X b c j) : j < w.heap.size := by
  rcases e with rfl | rfl | e
  · exact h.lt
  · exact h.ltb
  · exact h.ltc e
end

/-! ### A map held against nil -/
theorem eqRs (b : Nat) (u : World) : (binOp .eql 63 (.map (some b)) (.map none)).run Try.prog u = .ok (.bool false) u := by kernel_rfl
theorem eqWs (b : Nat) (u : World) : (binOp .eql 64 (.map (some b)) (.map none)).run Try.prog u = .ok (.bool false) u := by kernel_rfl
theorem eqWn (u : World) : (binOp .eql 64 (.map none) (.map none)).run Try.prog u = .ok (.bool true) u := by kernel_rfl
theorem neWs (b : Nat) (u : World) : (binOp .neq 64 (.map (some b)) (.map none)).run Try.prog u = .ok (.bool true) u := by kernel_rfl
theorem neWn (u : World) : (binOp .neq 64 (.map none) (.map none)).run Try.prog u = .ok (.bool false) u := by kernel_rfl

/-! ### Small functions -/
abbrev Cl.v (c : Cl) : Value := .agg #[.int .i64 c.kind, .int .i64 c.mode, .string c.key, .string c.high, .string c.val, .int .i64 c.draw, .int .i64 c.n]
abbrev Cl.cells (c : Cl) : List Value := [.int .i64 c.kind, .int .i64 c.mode, .string c.key, .string c.high, .string c.val, .int .i64 c.draw, .int .i64 c.n]
section
set_option maxHeartbeats 4000000
set_option maxRecDepth 100000
variable {w : World} {X b : Nat} {c : Option Nat} {S : Ms}
theorem mKey_any (s : ByteArray) (w : World) : Calls Try.prog 25 #[.string s] w fun e w' => e = .returned (.bool (isK s)) ∧ w' = w := by
  unfold isK
  go_enter Try.func25, Try.ntmps25
  by_cases h1 : 1 ≤ s.size
  · by_cases h2 : s.size ≤ 16
    · have d1 : (1 : Int) ≤ (s.size : Int) := by omega
      have d2 : (s.size : Int) ≤ 16 := by omega
      go_wp2
      go_ret
      exact ⟨by simp [h1, h2], rfl⟩
    · have d1 : (1 : Int) ≤ (s.size : Int) := by omega
      have d2 : ¬ (s.size : Int) ≤ 16 := by omega
      go_wp2
      go_ret
      exact ⟨by simp [h1, h2], rfl⟩
  · have d1 : ¬ (1 : Int) ≤ (s.size : Int) := by omega
    go_wp2
    go_ret
    exact ⟨by simp [h1], rfl⟩
theorem mVal_any (s : ByteArray) (w : World) : Calls Try.prog 26 #[.string s] w fun e w' => e = .returned (.bool (isV s)) ∧ w' = w := by
  unfold isV
  go_enter Try.func26, Try.ntmps26
  by_cases h2 : s.size ≤ 64
  · have d2 : (s.size : Int) ≤ 64 := by omega
    go_wp2
    go_ret
    exact ⟨by simp [h2], rfl⟩
  · have d2 : ¬ (s.size : Int) ≤ 64 := by omega
    go_wp2
    go_ret
    exact ⟨by simp [h2], rfl⟩
theorem mTime_any (t : Int) (w : World) : Calls Try.prog 27 #[.int .i64 t] w fun e w' => e = .returned (.bool (isT t)) ∧ w' = w := by
  unfold isT
  go_enter Try.func27, Try.ntmps27
  by_cases d1 : 0 ≤ t
  · by_cases d2 : t < 1099511627776
    · go_wp2
      go_ret
      exact ⟨by simp [d1, show t ≤ 1099511627775 by omega], rfl⟩
    · go_wp2
      go_ret
      exact ⟨by simp [show ¬ t ≤ 1099511627775 by omega], rfl⟩
  · go_wp2
    go_ret
    exact ⟨by simp [show ¬ (0 : Int) ≤ t by omega], rfl⟩
theorem errIf_any (x : Bool) (e : Int) (w : World) : Calls Try.prog 67 #[.bool x, .int .i64 e] w fun r w' => r = .returned (.int .i64 (if x then e else 0)) ∧ w' = w := by
  go_enter Try.func67, Try.ntmps67
  cases x with
  | true =>
    go_wp2
    go_ret
    exact ⟨rfl, rfl⟩
  | false =>
    go_wp2
    go_ret
    exact ⟨rfl, rfl⟩
theorem none_any (h : Pm w X b c S) : Calls Try.prog 29 #[ptr X] w fun e w' => e = .returned (.bool false) ∧ w' = w := by
  obtain ⟨c0, c1, c2⟩ := h.cells
  go_enter Try.func29, Try.ntmps29
  have q1 := eqRs b w
  go_wp2
  go_ret
  exact ⟨rfl, rfl⟩
theorem none_nil (w : World) : Calls Try.prog 29 #[.pointer none] w fun e w' => e = .returned (.bool true) ∧ w' = w := by
  go_enter Try.func29, Try.ntmps29
  go_wp2
  go_ret
  exact ⟨rfl, rfl⟩
end
end Go.Proofs.Ytheidhkmmihjlaa

/-
  Xm2: What is there for a transaction; what may be wrong with a call, one function each.
-/
set_option linter.unusedVariables false
set_option linter.unusedSimpArgs false
namespace Go.Proofs.Ytheidhkmmihjlaa
open Go.RowKit Go.Shelf Go.Maps
open ML (Ro RS Srt nless fstOf Fst strLit strLit_inj setL setL_same setL_other delL delL_same delL_other od nl_irr nl_tr nl_tot Mg Rdg RVs strKeyed str_key turned_below zeroRo)
attribute [local go_sem] Oper.semAt_some

theorem xdrew {B : Nat} {a w : World} (h : Below B a w) (q : Nat) : Below B a (w.drewN q) := ⟨h.os, h.tape, h.output, h.size, h.block⟩
theorem zeroWr (u : World) : (zeroValue 61).run Try.prog u = .ok (.agg #[.string .empty, .string .empty, .bool false]) u := by kernel_rfl
section
set_option maxHeartbeats 4000000
set_option maxRecDepth 100000
variable {w : World} {X b : Nat} {c : Option Nat} {S : Ms}
theorem Pm.ne (h : Pm w X b c S) (u : World) : (binOp .neq 64 (.map c) (.map none)).run Try.prog u = .ok (.bool S.ws.isSome) u := by
  have hw := h.wm
  cases hs : S.ws with
  | none => rw [hs] at hw; rw [show c = none from hw]; exact neWn u
  | some ws => rw [hs] at hw; obtain ⟨c0, g, rfl, _⟩ := hw; exact neWs c0 u
theorem Pm.eq (h : Pm w X b c S) (u : World) : (binOp .eql 64 (.map c) (.map none)).run Try.prog u = .ok (.bool S.ws.isNone) u := by
  have hw := h.wm
  cases hs : S.ws with
  | none => rw [hs] at hw; rw [show c = none from hw]; exact eqWn u
  | some ws => rw [hs] at hw; obtain ⟨c0, g, rfl, _⟩ := hw; exact eqWs c0 u
theorem look_any (h : Pm w X b c S) (ho : S.ws ≠ none) (k : ByteArray) (hk : k.size ≤ maxLen) :
    Calls Try.prog 68 #[ptr X, .string k] w fun e w' => e = .returned (.tuple #[.string ((look S k).getD .empty), .bool (look S k).isSome]) ∧ Below w.heap.size w w' := by
  obtain ⟨c0, c1, c2⟩ := h.cells
  obtain ⟨ws, hws⟩ := Option.ne_none_iff_exists'.1 ho
  have hwm := h.wm
  rw [hws] at hwm
  obtain ⟨d, g, rfl, hM, hF⟩ := hwm
  obtain ⟨f, hMr, hFr⟩ := h.rm
  have hS := (h.ok.wsrt ws hws).1
  have hlk := hM.look strKeyed Try.underlying64 (zeroWr w) (str_key hk)
  rw [show (Lit.string k.data.toList) = strLit k from rfl, hF.at hS] at hlk
  have hsz : Below w.heap.size w w := Below.refl _ _
  have HB := xhide h
  cases hq : wOf ws k with
  | some x =>
    have hx := (wOf_some hS).1 hq
    rw [hq] at hlk
    simp only [Option.map_some, Option.getD_some, Option.isSome_some] at hlk
    have hl : look S k = if x.gone then none else some x.val := by unfold look; rw [hws, Option.getD_some, hq]
    obtain ⟨xk, xv, xg⟩ := x
    have hg := (okW_iff.1 ((h.ok.wsrt ws hws).2.2 _ hx.1)).2.2
    clear hF hM hMr hFr h hx
    cases xg with
    | true =>
      have hv : xv = .empty := size_zero (hg rfl)
      subst hv
      rw [show look S k = none from hl]
      go_enter Try.func68, Try.ntmps68
      go_wp2_with (go_quiet (fail))
      go_ret2
      exact ⟨rfl, xdrew (ML.below1 _ _) _⟩
    | false =>
      rw [show look S k = some xv from hl]
      go_enter Try.func68, Try.ntmps68
      go_wp2_with (go_quiet (fail))
      go_ret2
      exact ⟨rfl, xdrew (ML.below1 _ _) _⟩
  | none =>
    rw [hq] at hlk
    simp only [Option.map_none, Option.getD_none, Option.isSome_none] at hlk
    have hl : look S k = (fstOf S.L k).map Ro.v := by unfold look; rw [hws, Option.getD_some, hq]
    obtain ⟨W1, hW1⟩ : ∃ W1, W1 = w.alloc (.cells #[.string .empty, .string .empty, .bool false] 61) := ⟨_, rfl⟩
    have hb1 : Below w.heap.size w W1 := by rw [hW1]; exact ML.below1 _ _
    have hMr1 := hMr.same (hb1.block _ hMr.lt)
    have y0 := (hb1.cell (p := ⟨X, 0, none⟩) h.lt).trans c0
    have hlr := hMr1.look strKeyed Try.underlying63 (zeroRo W1) (str_key hk)
    rw [show (Lit.string k.data.toList) = strLit k from rfl, (hFr.fst h.ok.srt).2] at hlr
    rw [hW1] at hlr y0
    cases hr : fstOf S.L k with
    | some r =>
      rw [hr] at hlr hl
      simp only [Option.map_some, Option.getD_some, Option.isSome_some] at hlr hl
      clear hF hM hMr hFr h hMr1 hW1 hb1
      rw [hl]
      go_enter Try.func68, Try.ntmps68
      go_wp2_with (go_quiet (fail))
      go_ret2
      exact ⟨rfl, ML.below2 _ _ _⟩
    | none =>
      rw [hr] at hlr hl
      simp only [Option.map_none, Option.getD_none, Option.isSome_none] at hlr hl
      clear hF hM hMr hFr h hMr1 hW1 hb1
      rw [hl]
      go_enter Try.func68, Try.ntmps68
      go_wp2_with (go_quiet (fail))
      go_ret2
      exact ⟨rfl, ML.below2 _ _ _⟩

variable {C : Cl}
theorem isOpen_any (h : Pm w X b c S) (C : Cl) : Calls Try.prog 45 #[ptr X, C.v] w fun e w' => e = .returned (.int .i64 (if S.ws.isSome then 153 else 0)) ∧ Below w.heap.size w w' := by
  obtain ⟨c0, c1, c2⟩ := h.cells
  have q1 := h.ne
  have HE := xhide (fun w => errIf_any S.ws.isSome 153 w)
  obtain ⟨E, hE⟩ : ∃ E : Int, E = (if S.ws.isSome then 153 else 0) := ⟨_, rfl⟩
  rw [← hE] at HE ⊢
  clear hE
  have hl := h.lt
  clear h
  go_enter Try.func45, Try.ntmps45
  go_wp2_with fail
  refine (HE.out _).mono ?_
  rintro e w1 ⟨rfl, rfl⟩
  go_wp2
  go_ret
  exact ⟨rfl, ML.below1 _ _⟩
theorem isNotOpen_any (h : Pm w X b c S) (C : Cl) : Calls Try.prog 48 #[ptr X, C.v] w fun e w' => e = .returned (.int .i64 (if S.ws.isNone then 152 else 0)) ∧ Below w.heap.size w w' := by
  obtain ⟨c0, c1, c2⟩ := h.cells
  have q1 := h.eq
  have HE := xhide (fun w => errIf_any S.ws.isNone 152 w)
  obtain ⟨E, hE⟩ : ∃ E : Int, E = (if S.ws.isNone then 152 else 0) := ⟨_, rfl⟩
  rw [← hE] at HE ⊢
  clear hE
  have hl := h.lt
  clear h
  go_enter Try.func48, Try.ntmps48
  go_wp2_with fail
  refine (HE.out _).mono ?_
  rintro e w1 ⟨rfl, rfl⟩
  go_wp2
  go_ret
  exact ⟨rfl, ML.below1 _ _⟩
theorem noMode_any (X : Nat) (C : Cl) (w : World) : Calls Try.prog 46 #[ptr X, C.v] w fun e w' => e = .returned (.int .i64 (if badM C then 151 else 0)) ∧ Below w.heap.size w w' := by
  have HE := xhide (fun w => errIf_any (badM C) 151 w)
  obtain ⟨E, hE⟩ : ∃ E : Int, E = (if badM C then 151 else 0) := ⟨_, rfl⟩
  rw [← hE] at HE ⊢
  clear hE
  unfold badM at HE
  go_enter Try.func46, Try.ntmps46
  by_cases d1 : C.mode = 1
  · simp only [d1] at HE
    go_wp2_with fail
    refine (HE.out _).mono ?_
    rintro e w1 ⟨rfl, rfl⟩
    go_wp2
    go_ret
    exact ⟨rfl, ML.below1 _ _⟩
  · go_wp2_with fail
    refine (HE.out _).mono ?_
    rintro e w1 ⟨rfl, rfl⟩
    go_wp2
    go_ret
    exact ⟨rfl, ML.below1 _ _⟩
theorem noKey_any (X : Nat) (C : Cl) (w : World) : Calls Try.prog 49 #[ptr X, C.v] w fun e w' => e = .returned (.int .i64 (if !isK C.key then 154 else 0)) ∧ Below w.heap.size w w' := by
  have HE := xhide (fun w => errIf_any (!isK C.key) 154 w)
  obtain ⟨E, hE⟩ : ∃ E : Int, E = (if !isK C.key then 154 else 0) := ⟨_, rfl⟩
  rw [← hE] at HE ⊢
  clear hE
  have HK := xhide (fun w => mKey_any C.key w)
  generalize isK C.key = B at *
  go_enter Try.func49, Try.ntmps49
  go_wp2_with fail
  refine (HK.out _).mono ?_
  rintro e w1 ⟨rfl, rfl⟩
  go_wp2_with fail
  refine (HE.out _).mono ?_
  rintro e w1 ⟨rfl, rfl⟩
  go_wp2
  go_ret
  exact ⟨rfl, ML.below1 _ _⟩
theorem noValue_any (X : Nat) (C : Cl) (w : World) : Calls Try.prog 53 #[ptr X, C.v] w fun e w' => e = .returned (.int .i64 (if !isV C.val then 155 else 0)) ∧ Below w.heap.size w w' := by
  have HE := xhide (fun w => errIf_any (!isV C.val) 155 w)
  obtain ⟨E, hE⟩ : ∃ E : Int, E = (if !isV C.val then 155 else 0) := ⟨_, rfl⟩
  rw [← hE] at HE ⊢
  clear hE
  have HK := xhide (fun w => mVal_any C.val w)
  generalize isV C.val = B at *
  go_enter Try.func53, Try.ntmps53
  go_wp2_with fail
  refine (HK.out _).mono ?_
  rintro e w1 ⟨rfl, rfl⟩
  go_wp2_with fail
  refine (HE.out _).mono ?_
  rintro e w1 ⟨rfl, rfl⟩
  go_wp2
  go_ret
  exact ⟨rfl, ML.below1 _ _⟩
theorem noSpan_any (X : Nat) (C : Cl) (w : World) : Calls Try.prog 51 #[ptr X, C.v] w fun e w' => e = .returned (.int .i64 (if badS C then 154 else 0)) ∧ Below w.heap.size w w' := by
  have HE := xhide (fun w => errIf_any (badS C) 154 w)
  unfold badS at *
  go_enter Try.func51, Try.ntmps51
  by_cases h1 : 16 < C.key.size
  · have d1 : (16 : Int) < (C.key.size : Int) := by omega
    simp only [h1, decide_true, Bool.true_or] at HE ⊢
    go_wp2_with fail
    refine (HE.out _).mono ?_
    rintro e w1 ⟨rfl, rfl⟩
    go_wp2
    go_ret
    exact ⟨rfl, ML.below1 _ _⟩
  · have d1 : ¬ (16 : Int) < (C.key.size : Int) := by omega
    by_cases h2 : 16 < C.high.size
    · have d2 : (16 : Int) < (C.high.size : Int) := by omega
      simp only [h1, h2, decide_true, Bool.or_true] at HE ⊢
      go_wp2_with fail
      refine (HE.out _).mono ?_
      rintro e w1 ⟨rfl, rfl⟩
      go_wp2
      go_ret
      exact ⟨rfl, ML.below1 _ _⟩
    · have d2 : ¬ (16 : Int) < (C.high.size : Int) := by omega
      simp only [h1, h2, decide_false, Bool.or_self] at HE ⊢
      go_wp2_with fail
      refine (HE.out _).mono ?_
      rintro e w1 ⟨rfl, rfl⟩
      go_wp2
      go_ret
      exact ⟨rfl, ML.below1 _ _⟩
theorem isThere_any (h : Pm w X b c S) (ho : S.ws ≠ none) (hs : C.key.size ≤ maxLen) : Calls Try.prog 54 #[ptr X, C.v] w fun e w' => e = .returned (.int .i64 (if (look S C.key).isSome then 156 else 0)) ∧ Below w.heap.size w w' := by
  have HE := xhide (fun w => errIf_any (look S C.key).isSome 156 w)
  obtain ⟨E, hE⟩ : ∃ E : Int, E = (if (look S C.key).isSome then 156 else 0) := ⟨_, rfl⟩
  rw [← hE] at HE ⊢
  clear hE
  have hb1 := ML.below1 w (.cells #[.int .i64 C.kind, .int .i64 C.mode, .string C.key, .string C.high, .string C.val, .int .i64 C.draw, .int .i64 C.n] 33)
  have HK := xhide (look_any (h.below hb1) ho C.key hs)
  clear h hb1
  generalize (look S C.key).isSome = B at *
  generalize (look S C.key).getD .empty = V at *
  go_enter Try.func54, Try.ntmps54
  go_wp2_with fail
  refine HK.out.mono ?_
  rintro e w1 ⟨rfl, hb⟩
  go_wp2_with fail
  refine (HE.out _).mono ?_
  rintro e w1 ⟨rfl, rfl⟩
  go_wp2
  go_ret
  exact ⟨rfl, (ML.below1 _ _).trans (hb.mono (by simp))⟩
theorem isMissing_any (h : Pm w X b c S) (ho : S.ws ≠ none) (hs : C.key.size ≤ maxLen) : Calls Try.prog 56 #[ptr X, C.v] w fun e w' => e = .returned (.int .i64 (if !(look S C.key).isSome then 157 else 0)) ∧ Below w.heap.size w w' := by
  have HE := xhide (fun w => errIf_any (!(look S C.key).isSome) 157 w)
  obtain ⟨E, hE⟩ : ∃ E : Int, E = (if !(look S C.key).isSome then 157 else 0) := ⟨_, rfl⟩
  rw [← hE] at HE ⊢
  clear hE
  have hb1 := ML.below1 w (.cells #[.int .i64 C.kind, .int .i64 C.mode, .string C.key, .string C.high, .string C.val, .int .i64 C.draw, .int .i64 C.n] 33)
  have HK := xhide (look_any (h.below hb1) ho C.key hs)
  clear h hb1
  generalize (look S C.key).isSome = B at *
  generalize (look S C.key).getD .empty = V at *
  go_enter Try.func56, Try.ntmps56
  go_wp2_with fail
  refine HK.out.mono ?_
  rintro e w1 ⟨rfl, hb⟩
  go_wp2_with fail
  refine (HE.out _).mono ?_
  rintro e w1 ⟨rfl, rfl⟩
  go_wp2
  go_ret
  exact ⟨rfl, (ML.below1 _ _).trans (hb.mono (by simp))⟩
end
end Go.Proofs.Ytheidhkmmihjlaa
