/-
  An operation alone, without memory.
-/
import Derived.Test.YtmcfonekajieeaaDoorSh1
set_option linter.unusedVariables false
set_option linter.unusedSimpArgs false
namespace Go.Proofs.YtmcfonekajieeaaDoor
open Go.RowKit Go.Maps

/-- What is in a list: its towers' keys, what they name, their heights. -/
def ks (s : Sl) : List (ByteArray × Int × Nat) := s.tw.map fun t => (t.k, t.r, t.h)
theorem ks_set {l : List Tw} {i : Nat} {t : Tw} (h : (t.k, t.r, t.h) = ((l.getD i t0).k, (l.getD i t0).r, (l.getD i t0).h)) : (l.set i t).map (fun t => (t.k, t.r, t.h)) = l.map fun t => (t.k, t.r, t.h) := by
  apply List.ext_getElem?
  intro j
  rw [List.getElem?_map, List.getElem?_map, List.getElem?_set]
  by_cases e : i = j
  · rw [if_pos e]
    by_cases hi : i < l.length
    · rw [if_pos hi, ← e, List.getElem?_eq_getElem hi]
      simp only [Option.map_some]
      rw [h]
      simp [List.getD, List.getElem?_eq_getElem hi]
    · rw [if_neg hi, ← e, List.getElem?_eq_none (by omega)]
  · rw [if_neg e]
theorem ks_linked {s : Sl} {i : Nat} {k : ByteArray} {r : Int} {cs : List Nat} : ks (s.linked i k r cs) = ks s ++ [(k, r, cs.length)] := by
  have e1 : (s.tw.set i { s.at i with ns := upd (s.at i).ns 0 s.tw.length }).map (fun t => (t.k, t.r, t.h)) = s.tw.map fun t => (t.k, t.r, t.h) := ks_set rfl
  unfold ks Sl.linked
  rw [List.map_append, e1]
  rfl
theorem ks_raised {s : Sl} {i j l : Nat} : ks (s.raised i j l) = ks s := by
  have e1 : (s.tw.set i { s.at i with ns := upd (s.at i).ns l j }).map (fun t => (t.k, t.r, t.h)) = s.tw.map fun t => (t.k, t.r, t.h) := ks_set rfl
  unfold ks Sl.raised
  show ((s.tw.set i { s.at i with ns := upd (s.at i).ns l j }).set j { s.at j with fs := upd (s.at j).fs l (s.nx i l), lk := l + 1 }).map (fun t => (t.k, t.r, t.h)) = _
  rw [ks_set, e1]
  rw [getD_set]
  split
  · rename_i q
    show ((s.at j).k, (s.at j).r, (s.at j).h) = ((s.at i).k, (s.at i).r, (s.at i).h)
    rw [q.1]
  · rfl
theorem ks_at {s s' : Sl} (h : ks s' = ks s) (i : Nat) : (s'.at i).k = (s.at i).k ∧ (s'.at i).r = (s.at i).r ∧ (s'.at i).h = (s.at i).h := by
  have h1 := congrArg (fun l : List (ByteArray × Int × Nat) => l[i]?) h
  unfold ks at h1
  simp only [List.getElem?_map] at h1
  unfold Sl.at List.getD
  cases e1 : s'.tw[i]? with
  | none =>
    cases e2 : s.tw[i]? with
    | none => exact ⟨rfl, rfl, rfl⟩
    | some t => rw [e1, e2] at h1; simp at h1
  | some t' =>
    cases e2 : s.tw[i]? with
    | none => rw [e1, e2] at h1; simp at h1
    | some t =>
      rw [e1, e2] at h1
      simp at h1
      exact h1
theorem ks_len {s s' : Sl} (h : ks s' = ks s) : s'.tw.length = s.tw.length := by
  have := congrArg List.length h
  simpa [ks] using this

/-- How many keys lie between a place and a key. -/
def btw (s : Sl) (i : Nat) (k : ByteArray) (j : Nat) : Bool := decide (j ≠ 0) && (decide (i = 0) || decide (bl (s.at i).k < bl (s.at j).k)) && decide (bl (s.at j).k < bl k)
def cnt (s : Sl) (i : Nat) (k : ByteArray) : Nat := ((List.range s.tw.length).filter (btw s i k)).length
theorem filter_less {p q : Nat → Bool} : ∀ (l : List Nat), (∀ x ∈ l, q x = true → p x = true) → (∃ x ∈ l, p x = true ∧ q x = false) → (l.filter q).length < (l.filter p).length
  | [], _, h => by obtain ⟨x, hx, _⟩ := h; cases hx
  | y :: ys, h1, h2 => by
    have hle : ∀ l : List Nat, (∀ x ∈ l, q x = true → p x = true) → (l.filter q).length ≤ (l.filter p).length := by
      intro l
      induction l with
      | nil => intro _; simp
      | cons z zs ih =>
        intro h
        have := ih (fun x hx => h x (by simp [hx]))
        cases hq : q z with
        | true => simp [List.filter_cons, hq, h z (by simp) hq]; exact this
        | false => cases hp : p z <;> simp [List.filter_cons, hq, hp] <;> omega
    obtain ⟨x, hx, h3, h4⟩ := h2
    rcases List.mem_cons.1 hx with e | e
    · subst e
      have := hle ys (fun x hx => h1 x (by simp [hx]))
      simp [List.filter_cons, h3, h4]; omega
    · have := filter_less ys (fun x hx => h1 x (by simp [hx])) ⟨x, e, h3, h4⟩
      cases hq : q y with
      | true => simp [List.filter_cons, hq, h1 y (by simp) hq]; exact this
      | false => cases hp : p y <;> simp [List.filter_cons, hq, hp] <;> omega
theorem cnt_pass {s : Sl} {i j : Nat} {k : ByteArray} (h0 : j ≠ 0) (hj : j < s.tw.length) (h1 : i = 0 ∨ Blw (s.at i).k (s.at j).k) (h2 : Blw (s.at j).k k) : cnt s j k < cnt s i k := by
  refine filter_less _ (fun x _ hx => ?_) ⟨j, List.mem_range.2 hj, ?_, ?_⟩
  · unfold btw at hx ⊢
    simp only [Bool.and_eq_true, Bool.or_eq_true, decide_eq_true_eq] at hx ⊢
    refine ⟨⟨hx.1.1, ?_⟩, hx.2⟩
    rcases hx.1.2 with q | q
    · exact absurd q h0
    · exact h1.imp id (fun q2 => List.lt_trans q2 q)
  · unfold btw
    simp only [Bool.and_eq_true, Bool.or_eq_true, decide_eq_true_eq]
    exact ⟨⟨h0, h1⟩, h2⟩
  · unfold btw
    have : ¬ bl (s.at j).k < bl (s.at j).k := List.lt_irrefl _
    simp [h0, this]
theorem cnt_le (s : Sl) (i : Nat) (k : ByteArray) : cnt s i k ≤ s.tw.length - 1 := by
  unfold cnt
  rcases Nat.eq_zero_or_pos s.tw.length with e | e
  · rw [e]; simp
  · have h1 : (List.range s.tw.length).filter (btw s i k) = ((List.range s.tw.length).filter (fun j => decide (j ≠ 0))).filter (btw s i k) := by
      rw [List.filter_filter]
      congr 1
      funext j
      unfold btw
      cases decide (j ≠ 0) <;> simp
    rw [h1]
    refine Nat.le_trans (List.length_filter_le _ _) ?_
    obtain ⟨n, hn⟩ : ∃ n, s.tw.length = n + 1 := ⟨s.tw.length - 1, by omega⟩
    rw [hn, List.range_succ_eq_map]
    simp only [List.filter_cons]
    refine Nat.le_trans (show _ ≤ ((List.range n).map Nat.succ).length from ?_) (by simp)
    have : decide ((0 : Nat) ≠ 0) = false := by decide
    simp only [this]
    exact List.length_filter_le _ _

/-- What an operation has come to, alone. -/
def Fin (s : Sl) (k : ByteArray) (kind : Nat) (r : Int) (h : Nat) (s' : Sl) (o : Opm) : Prop :=
  o.st = 5 ∧ o.code = 0 ∧ s'.sp = [] ∧
  ((∃ j, 1 ≤ j ∧ j < s.tw.length ∧ o.fk = (s.at j).k ∧ o.nm = (s.at j).r ∧ o.had = true ∧ ks s' = ks s ∧ ((s.at j).k = k ∨ (kind = 1 ∧ Blw k (s.at j).k ∧ ∀ x, 1 ≤ x → x < s.tw.length → Blw (s.at x).k k ∨ ¬ Blw (s.at x).k (s.at j).k))) ∨
   (kind ≠ 2 ∧ o.fk = .empty ∧ o.nm = 0 ∧ o.had = false ∧ ks s' = ks s ∧ ∀ x, 1 ≤ x → x < s.tw.length → (kind = 1 → Blw (s.at x).k k) ∧ (s.at x).k ≠ k) ∨
   (kind = 2 ∧ o.fk = k ∧ o.nm = r ∧ o.had = false ∧ ks s' = ks s ++ [(k, r, h)] ∧ ∀ x, 1 ≤ x → x < s.tw.length → (s.at x).k ≠ k))

/-- An operation alone, with at most p steps to come. -/
structure Alo (s : Sl) (k : ByteArray) (kind : Nat) (r : Int) (h : Nat) (p : Nat) (s' : Sl) (o : Opm) : Prop where
  oi : OI s' o
  ek : o.k = k
  ekind : o.kind = kind
  er : o.r = r
  eh : kind = 2 → o.h = h ∧ 1 ≤ h ∧ h ≤ 8
  full : o.full = false
  code : o.code = 0
  gd : kind = 2 → good k = true
  kd : o.tw ≠ 0 → kind = 2
  k2 : kind ≠ 0 → kind ≠ 1 → kind = 2
  ex : ∀ l, (o.lv < l ∨ o.st ≠ 1) → o.lv ≤ l → l < 8 → o.pn l = (s'.at (o.pt l)).ns l
  ph : (o.st = 1 ∧ o.tw = 0 ∧ o.cs = [] ∧ s' = s ∧ cnt s (o.pt o.lv) k + o.lv + 1 + (if kind = 2 then 2 * h else 0) ≤ p) ∨
    (o.st = 2 ∧ ks s' = ks s ∧ s'.sp = o.cs ∧ (h - o.cs.length) + h ≤ p ∧ ∀ x, 1 ≤ x → x < s.tw.length → (s.at x).k ≠ k) ∨
    (o.st = 3 ∧ ks s' = ks s ++ [(k, r, h)] ∧ s'.sp = [] ∧ o.tw = s.tw.length ∧ h - o.lv ≤ p ∧ ∀ x, 1 ≤ x → x < s.tw.length → (s.at x).k ≠ k)

section
variable {s s' s'' : Sl} {k : ByteArray} {kind : Nat} {r : Int} {h p z : Nat} {o o' : Opm}
theorem Alo.pos (a : Alo s k kind r h p s' o) (hst : o.st ≠ 5) : 1 ≤ p := by
  rcases a.ph with q | q | q
  · omega
  · have := (a.oi.two q.1)
    have := a.eh (by rw [← a.ekind]; exact this.2.2.1)
    omega
  · obtain ⟨t1, t2, t3, t4, t5, t6⟩ := a.oi.tw (a.oi.thr q.1)
    have hk : kind = 2 ∨ kind ≠ 2 := by omega
    rcases hk with hk | hk
    · have := a.eh hk
      omega
    · exact absurd (a.kd (a.oi.thr q.1)) hk
theorem ans_nil (o : Opm) (s : Sl) (i : Nat) (had : Bool) (h : ∀ c ∈ o.cs, c ∉ s.sp) : (o.ans s i had).st = 5 ∧ (o.ans s i had).fk = (s.at i).k ∧ (o.ans s i had).nm = (s.at i).r ∧ (o.ans s i had).had = had ∧ (o.ans s i had).code = o.code := by
  have e : ((o.told s i had).owned s).cs = [] := by
    show o.cs.filter (fun c => s.sp.contains c) = []
    rw [List.filter_eq_nil_iff]
    intro c hc
    simpa using h c hc
  refine ⟨?_, rfl, rfl, rfl, rfl⟩
  show (if ((o.told s i had).owned s).cs.length = 0 then 5 else 4) = 5
  rw [e]; rfl
end
end Go.Proofs.YtmcfonekajieeaaDoor
