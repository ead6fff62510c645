/-
  What the loop of 'together' holds.
-/
import Derived.Test.YtbpihkojmbfccaaDoorHd3
set_option linter.unusedVariables false
set_option linter.unusedSimpArgs false
namespace Go.Proofs.YtbpihkojmbfccaaDoor
open Go.RowKit Go.Maps Go.Sort

def curr (n : Nat) (s : Tb) (l : List Un) (o : Option Nat) : Nat :=
  match o with
  | none => 0
  | some j => match l[j]? with
    | none => 0
    | some u => ur n s u
/-- At most so many turns of a worker are to come. -/
def mu (xs : List AskR) (s : Tb) (l : List Un) (at4 : List Nat) (now4 : List (Option Nat)) (q : Nat) : Nat := rem xs (at4.getD q 0) q * (4 * xs.length + 6) + curr xs.length s l (now4.getD q none)

def MuOk (f : Nat → Nat) (Kc P i : Nat) : Prop := ∀ q, q < 4 → f q ≤ Kc ∧ (P ≤ i → f q + (i + 3 - q) / 4 ≤ Kc + (P + 3 - q) / 4 ∨ f q = 0)
theorem MuOk.turn {f g : Nat → Nat} {Kc P i q0 : Nat} (h : MuOk f Kc P i) (hq : q0 < 4) (hP : P ≤ i → q0 = i % 4) (h0 : g q0 + 1 ≤ f q0 ∨ g q0 = 0) (ho : ∀ q, q < 4 → q ≠ q0 → g q ≤ f q) : MuOk g Kc P (i + 1) := by
  intro q hq4
  obtain ⟨h1, h2⟩ := h q hq4
  by_cases e : q = q0
  · subst e
    refine ⟨by omega, fun hp => ?_⟩
    rcases Nat.lt_or_ge i P with hlt | hge
    · left; have : i + 1 = P := by omega
      rw [this]; omega
    · have hm := hP hge
      rcases h0 with h0 | h0
      · rcases h2 hge with h3 | h3
        · left; omega
        · omega
      · exact .inr h0
  · have h3 := ho q hq4 e
    refine ⟨by omega, fun hp => ?_⟩
    rcases Nat.lt_or_ge i P with hlt | hge
    · left; have : i + 1 = P := by omega
      rw [this]; omega
    · have hm := hP hge
      rcases h2 hge with h4 | h4
      · left
        have : ¬ i % 4 = q := by omega
        omega
      · right; omega
theorem MuOk.start {f : Nat → Nat} {Kc P : Nat} (h : ∀ q, q < 4 → f q ≤ Kc) : MuOk f Kc P 0 := by
  intro q hq
  refine ⟨h q hq, fun hp => .inl ?_⟩
  have h1 : P = 0 := by omega
  rw [h1]
  have := h q hq
  omega
theorem MuOk.fin {f : Nat → Nat} {Kc P : Nat} (h : MuOk f Kc P (P + 4 * Kc)) : ∀ q, q < 4 → f q = 0 := fun q hq => by
  rcases (h q hq).2 (by omega) with h1 | h1
  · omega
  · exact h1

/-- The loop's state at time i. -/
structure Tl (w wr : World) (tb d : Nat) (xs : List AskR) (P i : Nat) (K : Nat → Prop) (s : Tb) (l : List Un) (v : Value) (ab nb : Nat) (at4 : List Nat) (now4 : List (Option Nat)) : Prop where
  tm : Tm w wr tb d i K s l v ab nb at4 now4
  ti : Ti s l (fun q => now4.getD q none) i
  al : ∀ q, q < 4 → at4.getD q 0 ≤ xs.length
  cnt : l.length + (rem xs (at4.getD 0 0) 0 + rem xs (at4.getD 1 0) 1 + rem xs (at4.getD 2 0) 2 + rem xs (at4.getD 3 0) 3) = xs.length
  mu : MuOk (mu xs s l at4 now4) (xs.length * (8 * xs.length + 20)) P i

section
variable {w wr w' : World} {tb d P i : Nat} {xs : List AskR} {K : Nat → Prop} {s : Tb} {l : List Un} {v : Value} {ab nb : Nat} {at4 : List Nat} {now4 : List (Option Nat)}
theorem Tm.upM {M M' : Nat} (h : Tm w wr tb d M K s l v ab nb at4 now4) (hM : M ≤ M') : Tm w wr tb d M' K s l v ab nb at4 now4 :=
  ⟨h.ht.up hM, h.row, h.ops, h.nd, h.kb, h.ko, h.kv, h.atb, h.nowb, h.la, h.ka, h.bl, h.b0⟩

theorem getD4 {α : Type} {l : List α} (h : l.length = 4) {q q2 : Nat} (hq : q < 4) (x z : α) : (l.set q x).getD q2 z = if q2 = q then x else l.getD q2 z := by
  rw [getD_set]
  by_cases e : q2 = q
  · rw [if_pos ⟨e, by omega⟩, if_pos e]
  · rw [if_neg (fun c => e c.1), if_neg e]

/-- A worker with nothing to do any more. -/
theorem Tl.idle (h : Tl w wr tb d xs P i K s l v ab nb at4 now4) {q : Nat} (hq : q < 4) (hP : P ≤ i → q = i % 4) (hnow : now4.getD q none = none) (h0 : rem xs (at4.getD q 0) q = 0) : Tl w wr tb d xs P (i + 1) K s l v ab nb at4 now4 :=
  ⟨h.tm.upM (Nat.le_succ _), h.ti.later (Nat.le_succ _), h.al, h.cnt, h.mu.turn hq hP (.inr (by unfold Go.Proofs.YtbpihkojmbfccaaDoor.mu; rw [h0, hnow]; simp [curr])) (fun _ _ _ => Nat.le_refl _)⟩
/-- A worker has looked past an ask that is not its own. -/
theorem Tl.past (h : Tl w wr tb d xs P i K s l v ab nb at4 now4) {q : Nat} (hq : q < 4) {x : AskR} (hx : xs[at4.getD q 0]? = some x) (hn : wkr x.w ≠ q) : Tl w (wr.setCell ⟨ab, q, none⟩ (.int .i64 ((at4.getD q 0 + 1 : Nat) : Int))) tb d xs P i K s l v ab nb (at4.set q (at4.getD q 0 + 1)) now4 := by
  have hr : ∀ q2, rem xs ((at4.set q (at4.getD q 0 + 1)).getD q2 0) q2 = rem xs (at4.getD q2 0) q2 := fun q2 => by
    rw [getD4 h.tm.la.1 hq]
    by_cases e : q2 = q
    · rw [if_pos e, e]; exact rem_pass hx hn
    · rw [if_neg e]
  refine ⟨h.tm.setAt q _, h.ti, fun q2 h2 => ?_, by rw [hr, hr, hr, hr]; exact h.cnt, ?_⟩
  · rw [getD4 h.tm.la.1 hq]
    by_cases e : q2 = q
    · rw [if_pos e]; have := (List.getElem?_eq_some_iff.1 hx).1; omega
    · rw [if_neg e]; exact h.al q2 h2
  · have : Go.Proofs.YtbpihkojmbfccaaDoor.mu xs s l (at4.set q (at4.getD q 0 + 1)) now4 = Go.Proofs.YtbpihkojmbfccaaDoor.mu xs s l at4 now4 := by
      funext q2
      unfold Go.Proofs.YtbpihkojmbfccaaDoor.mu
      rw [hr]
    rw [this]; exact h.mu

/-- Facts for a step. -/
theorem Tl.facts (h : Tl w wr tb d xs P i K s l v ab nb at4 now4) (hx : xs.length ≤ 60) : s.cells.length < 400 ∧ s.all.length ≤ xs.length ∧ (∀ e ∈ s.all, e ∈ s.at (bkt s.hd.length e.k)) ∧ (∀ k, bkt s.hd.length k < s.ch.length) ∧ l.length ≤ xs.length := by
  obtain ⟨T, N, hV, hN⟩ := h.tm.ht.inv
  have h1 := h.ti.room hV.sp_nd
  have h2 := h.cnt
  have h3 := hV.n1.2
  refine ⟨?_, by omega, fun e he => hV.home he, fun k => by rw [hV.len]; exact bkt_lt _ hV.n1.1, by omega⟩
  unfold Tb.cells
  simp only [List.length_append, List.length_map]
  omega

theorem curr_at {n : Nat} {j : Nat} {u : Un} (h : l[j]? = some u) : curr n s l (some j) = ur n s u := by simp [curr, h]

/-- A step was done. -/
theorem Tl.stepped (h : Tl w wr tb d xs P i K s l v ab nb at4 now4) (hx : xs.length ≤ 60) {q j : Nat} (hq : q < 4) (hP : P ≤ i → q = i % 4) (hnow : now4.getD q none = some j) {u : Un} (hu : l[j]? = some u) {s' : Tb} {o' : Opm} {K' : Nat → Prop} {v' : Value} {now4' : List (Option Nat)}
    (hT : Tm w w' tb d (i + 1) K' s' (l.set j (u.went o' i)) v' ab nb at4 now4') (hn' : ∀ q2, now4'.getD q2 none = if q2 = q ∧ o'.st = 3 then none else now4.getD q2 none)
    (hst : (good u.x.key = true ∧ Stp 400 s u.o s' o') ∨ (good u.x.key = false ∧ s' = s ∧ o' = u.o.ans 0 false 90)) : Tl w w' tb d xs P (i + 1) K' s' (l.set j (u.went o' i)) v' ab nb at4 now4' := by
  obtain ⟨f1, f2, f3, f4, f5⟩ := h.facts hx
  obtain ⟨u2, hu2, hf, hwk⟩ := h.ti.nw q j hnow
  rw [hu] at hu2
  cases hu2
  have eN : (fun q2 => now4'.getD q2 none) = nowS (fun q2 => now4.getD q2 none) u o' := by
    funext q2
    rw [hn', ← hwk]
    rfl
  have hcells : ∀ c ∈ s.sp, c ∈ s.cells := fun c hc => sp_cells hc
  have hti : Ti s' (l.set j (u.went o' i)) (fun q2 => now4'.getD q2 none) i := by
    rw [eN]
    rcases hst with ⟨hg, hs⟩ | ⟨hg, rfl, rfl⟩
    · exact h.ti.step hu hf hg hs (f4 _) f1 f3 hcells
    · exact h.ti.stepBad hu hf hg
  refine ⟨hT, hti.later (Nat.le_succ _), h.al, by rw [List.length_set]; exact h.cnt, h.mu.turn hq hP ?_ (fun q2 h2 hne => ?_)⟩
  · -- its own turn
    by_cases h3 : o'.st = 3
    · left
      unfold Go.Proofs.YtbpihkojmbfccaaDoor.mu
      rw [hn', if_pos ⟨rfl, h3⟩, hnow, curr_at hu]
      have := ur_pos xs.length s u
      show _ + 0 + 1 ≤ _
      omega
    · left
      unfold Go.Proofs.YtbpihkojmbfccaaDoor.mu
      rw [hn', if_neg (fun c => h3 c.2), hnow, curr_at hu, curr_at (set_new hu)]
      rcases hst with ⟨hg, hs⟩ | ⟨hg, rfl, rfl⟩
      · have hr := (h.ti.one u (List.mem_of_getElem? hu)).run hf hg
        have := ur_step (t := i) hr hg hs (f4 _) f1 (Nat.le_trans (at_le _) f2) h3
        omega
      · exact absurd rfl h3
  · unfold Go.Proofs.YtbpihkojmbfccaaDoor.mu
    rw [hn', if_neg (fun c => hne c.1)]
    have : curr xs.length s' (l.set j (u.went o' i)) (now4.getD q2 none) ≤ curr xs.length s l (now4.getD q2 none) := by
      cases hc : now4.getD q2 none with
      | none => exact Nat.le_refl _
      | some j2 =>
        obtain ⟨u3, hu3, hf3, hw3⟩ := h.ti.nw q2 j2 hc
        have hj2 : j2 ≠ j := fun e => by
          subst e
          rw [hu] at hu3; cases hu3
          exact hne (hw3.symm.trans hwk)
        rw [curr_at hu3, curr_at (set_old hj2 hu3)]
        rcases hst with ⟨hg, hs⟩ | ⟨hg, rfl, rfl⟩
        · exact ur_other hs (f4 _)
        · exact Nat.le_refl _
    omega

/-- An operation was begun. -/
theorem Tl.begun (h : Tl w wr tb d xs P i K s l v ab nb at4 now4) {q : Nat} (hq : q < 4) (hP : P ≤ i → q = i % 4) (hnow : now4.getD q none = none) {x : AskR} (hx : xs[at4.getD q 0]? = some x) (hwk : wkr x.w = q) {b : Nat} {v' : Value}
    (hT : Tm w w' tb d i K s (l ++ [⟨x, opB s x.key (!x.look) (if x.look = true then 0 else x.ref), b, i, none⟩]) v' ab nb (at4.set q (at4.getD q 0 + 1)) (now4.set q (some l.length))) :
    Tl w w' tb d xs P (i + 1) K s (l ++ [⟨x, opB s x.key (!x.look) (if x.look = true then 0 else x.ref), b, i, none⟩]) v' ab nb (at4.set q (at4.getD q 0 + 1)) (now4.set q (some l.length)) := by
  have hlt : ∀ q2 j, now4.getD q2 none = some j → j < l.length := fun q2 j hj => by
    obtain ⟨u, hu, _⟩ := h.ti.nw q2 j hj
    exact (List.getElem?_eq_some_iff.1 hu).1
  have hti := h.ti.begun (x := x) (b := b) (by rw [hwk]; exact hnow) hlt
  have eN : (fun q2 => (now4.set q (some l.length)).getD q2 none) = fun q2 => if q2 = wkr x.w then some l.length else now4.getD q2 none := by
    funext q2
    rw [getD4 h.tm.la.2 hq, hwk]
  rw [← eN] at hti
  have hr : ∀ q2, q2 ≠ q → rem xs ((at4.set q (at4.getD q 0 + 1)).getD q2 0) q2 = rem xs (at4.getD q2 0) q2 := fun q2 hne => by rw [getD4 h.tm.la.1 hq, if_neg hne]
  have hrq : rem xs (at4.getD q 0) q = rem xs ((at4.set q (at4.getD q 0 + 1)).getD q 0) q + 1 := by
    rw [getD4 h.tm.la.1 hq, if_pos rfl]; exact rem_take hx hwk
  refine ⟨hT.upM (Nat.le_succ _), hti.later (Nat.le_succ _), fun q2 h2 => ?_, ?_, h.mu.turn hq hP (.inl ?_) (fun q2 h2 hne => ?_)⟩
  · rw [getD4 h.tm.la.1 hq]
    by_cases e : q2 = q
    · rw [if_pos e]; have := (List.getElem?_eq_some_iff.1 hx).1; omega
    · rw [if_neg e]; exact h.al q2 h2
  · have hc := h.cnt
    rw [List.length_append, List.length_singleton]
    rcases (show q = 0 ∨ q = 1 ∨ q = 2 ∨ q = 3 by omega) with e | e | e | e <;> subst e
    · rw [hr 1 (by decide), hr 2 (by decide), hr 3 (by decide)]; omega
    · rw [hr 0 (by decide), hr 2 (by decide), hr 3 (by decide)]; omega
    · rw [hr 0 (by decide), hr 1 (by decide), hr 3 (by decide)]; omega
    · rw [hr 0 (by decide), hr 1 (by decide), hr 2 (by decide)]; omega
  · unfold Go.Proofs.YtbpihkojmbfccaaDoor.mu
    rw [hrq, getD4 h.tm.la.2 hq, if_pos rfl, hnow, curr_at (u := ⟨x, opB s x.key (!x.look) (if x.look = true then 0 else x.ref), b, i, none⟩) (by simp)]
    have := ur_begin (n := xs.length) (s := s) x b i (!x.look) (if x.look = true then 0 else x.ref)
    rw [Nat.add_mul]
    show _ + _ + 1 ≤ _ + 1 * _ + 0
    omega
  · unfold Go.Proofs.YtbpihkojmbfccaaDoor.mu
    rw [hr q2 hne, getD4 h.tm.la.2 hq, if_neg hne]
    have : curr xs.length s (l ++ [⟨x, opB s x.key (!x.look) (if x.look = true then 0 else x.ref), b, i, none⟩]) (now4.getD q2 none) = curr xs.length s l (now4.getD q2 none) := by
      cases hc : now4.getD q2 none with
      | none => rfl
      | some j2 =>
        obtain ⟨u3, hu3, _⟩ := h.ti.nw q2 j2 hc
        rw [curr_at hu3, curr_at (u := u3) (by rw [List.getElem?_append_left (hlt q2 j2 hc)]; exact hu3)]
    omega

/-- At the end all are done. -/
theorem Tl.done (h : Tl w wr tb d xs P (P + 4 * (xs.length * (8 * xs.length + 20))) K s l v ab nb at4 now4) : l.length = xs.length ∧ (∀ q, q < 4 → now4.getD q none = none) ∧ (∀ u ∈ l, u.fin.isSome = true) ∧ s.sp = [] := by
  have hm := h.mu.fin
  have h1 : ∀ q, q < 4 → rem xs (at4.getD q 0) q = 0 ∧ now4.getD q none = none := fun q hq => by
    have := hm q hq
    unfold Go.Proofs.YtbpihkojmbfccaaDoor.mu at this
    have hc : curr xs.length s l (now4.getD q none) = 0 := by omega
    refine ⟨?_, ?_⟩
    · rcases Nat.eq_zero_or_pos (rem xs (at4.getD q 0) q) with e | e
      · exact e
      · have : 1 * 6 ≤ rem xs (at4.getD q 0) q * (4 * xs.length + 6) := Nat.mul_le_mul e (by omega)
        omega
    · cases hn : now4.getD q none with
      | none => rfl
      | some j =>
        obtain ⟨u, hu, _⟩ := h.ti.nw q j hn
        rw [hn, curr_at hu] at hc
        have := ur_pos xs.length s u
        omega
  have hall : ∀ u ∈ l, u.fin.isSome = true := fun u hu => by
    obtain ⟨j, hj⟩ := List.getElem?_of_mem hu
    cases hf : u.fin with
    | some f => rfl
    | none =>
      have h2 := h.ti.un j u hj hf
      have h3 := (h1 _ (wkr_lt u.x.w)).2
      rw [show now4.getD (wkr u.x.w) none = some j from h2] at h3
      cases h3
  refine ⟨?_, fun q hq => (h1 q hq).2, hall, ?_⟩
  · have := h.cnt
    have a0 := (h1 0 (by decide)).1
    have a1 := (h1 1 (by decide)).1
    have a2 := (h1 2 (by decide)).1
    have a3 := (h1 3 (by decide)).1
    omega
  · cases hs : s.sp with
    | nil => rfl
    | cons c cs =>
      obtain ⟨u, hu, hf, _⟩ := h.ti.sp c (by rw [hs]; simp)
      have := hall u hu
      rw [hf] at this; cases this
end
end Go.Proofs.YtbpihkojmbfccaaDoor
