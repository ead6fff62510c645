/-
  moved: programs that touch cells of their own.
-/
import Derived.Test.YtnpmldlnckbppaaDoorB1
import Derived.Deep.DeepCutAuto
set_option linter.unusedVariables false
set_option linter.unusedSimpArgs false
namespace Go.Proofs.YtnpmldlnckbppaaDoor
open Go.RowKit

theorem flat4_at (l : List OpR) (i j : Nat) (x : OpR) (hi : l[i]? = some x) (hj : j < 4) : (l.flatMap OpR.cells)[i * 4 + j]? = x.cells[j]? := by
  induction l generalizing i with
  | nil => cases hi
  | cons a l ih =>
    have hl : a.cells.length = 4 := rfl
    rw [List.flatMap_cons]
    cases i with
    | zero =>
      cases hi
      rw [List.getElem?_append_left (by omega)]
      congr 1
      omega
    | succ i =>
      rw [List.getElem?_append_right (by omega), hl]
      have := ih i (by simpa using hi)
      rw [← this]
      congr 1
      omega
theorem row4_seq {w : World} {base : Nat} {v : Value} {l : List OpR} (h : w.ownsRow base 42 4 v l.length (l.flatMap OpR.cells)) : ∃ ao cap, v = .slice ao l.length cap ∧ Seq 4 OpR.cells w ao l.length cap l := by
  rcases h.2 with ⟨rfl, h0⟩ | ⟨g, cap, cur, rfl, hg, hh, hn, hm, hs, ht⟩
  · refine ⟨none, 0, by rw [h0], rfl, by omega, Nat.zero_le _, fun h => absurd h (by omega)⟩
  · refine ⟨_, cap, rfl, rfl, hn, hm, fun hl => ⟨g, 0, rfl, (Array.getElem?_eq_some_iff.1 hh).1, fun i x hi j u hu => ?_⟩⟩
    have hil := (List.getElem?_eq_some_iff.1 hi).1
    have hj : j < 4 := (List.getElem?_eq_some_iff.1 hu).1
    have hown : w.ownsRow base 42 4 (.slice (some ⟨g, 0, none⟩) l.length cap) l.length (l.flatMap OpR.cells) := h
    rw [Nat.zero_add, hown.cellAt (i * 4 + j) (by omega), flat4_at l i j x hi hj]
    exact hu

/-- Programs of one's own: a row of slices, each a row of operations. -/
structure Lm (w : World) (base : Nat) (v : Value) (vs : Nat → Value) (Q : List (List OpR)) : Prop where
  row : w.ownsRow base 39 1 v Q.length ((List.range Q.length).map vs)
  ins : ∀ j, j < Q.length → w.ownsRow base 42 4 (vs j) (Q.getD j []).length ((Q.getD j []).flatMap OpR.cells)
theorem Lm.fr {X : Nat → Prop} {w w' : World} {base : Nat} {v : Value} {vs : Nat → Value} {Q : List (List OpR)} (h : Lm w base v vs Q) (hF : Fr X w w') (h1 : ∀ j, v.ownBlock = some j → ¬ X j) (h2 : ∀ i j, i < Q.length → (vs i).ownBlock = some j → ¬ X j) : Lm w' base v vs Q :=
  ⟨row_fr h.row hF h1, fun j hj => row_fr (h.ins j hj) hF (fun l hl => h2 j l hj hl)⟩
theorem Lm.below {w w' : World} {base : Nat} {v : Value} {vs : Nat → Value} {Q : List (List OpR)} (h : Lm w base v vs Q) (hb : Below w.heap.size w w') : Lm w' base v vs Q := h.fr (X := fun _ => False) (Fr.below hb) (fun _ _ h => h) (fun _ _ _ _ h => h)
theorem Lm.ints {w w' : World} {base B n : Nat} {v u : Value} {vs : Nat → Value} {Q : List (List OpR)} {xs : List Value} (h : Lm w base v vs Q) (hr : w.ownsRow B 3 1 u n xs) (hg : w.grownBy w' u.ownBlock) : Lm w' base v vs Q :=
  h.fr (X := fun j => u.ownBlock = some j) (Fr.grown hg (fun j e => e)) (fun l hl e => by
    obtain ⟨c, fz, hh⟩ := Go.Lib.ownsRow_kind hr l e
    obtain ⟨c2, fz2, hh2⟩ := Go.Lib.ownsRow_kind h.row l hl
    rw [hh] at hh2
    simp at hh2) (fun i l hi hl e => by
    obtain ⟨c, fz, hh⟩ := Go.Lib.ownsRow_kind hr l e
    obtain ⟨c2, fz2, hh2⟩ := Go.Lib.ownsRow_kind (h.ins i hi) l hl
    rw [hh] at hh2
    simp at hh2)
def prV (v : Value) (os : List OpR) : PrR := match v with
  | .slice ao l c => ⟨ao, l, c, os⟩
  | _ => ⟨none, 0, 0, os⟩
def progV (vs : Nat → Value) (Q : List (List OpR)) : List PrR := (List.range Q.length).map fun j => prV (vs j) (Q.getD j [])
theorem progV_ops (vs : Nat → Value) (Q : List (List OpR)) : ops (progV vs Q) = Q := by
  unfold ops progV
  rw [List.map_map]
  have e2 : ∀ v os, (prV v os).ops = os := fun v os => by unfold prV; split <;> rfl
  apply List.ext_getElem (by simp)
  intro i h1 h2
  have hi : i < Q.length := h2
  simp [e2, List.getD, List.getElem?_eq_getElem hi]
theorem progV_len (vs : Nat → Value) (Q : List (List OpR)) : (progV vs Q).length = Q.length := by simp [progV]
theorem Lm.progs {w : World} {base : Nat} {v : Value} {vs : Nat → Value} {Q : List (List OpR)} (h : Lm w base v vs Q) (hok : ∀ j o, o ∈ Q.getD j [] → o.ok) : ∃ ao cap, v = .slice ao Q.length cap ∧ Progs w ao Q.length cap (progV vs Q) := by
  have hins : ∀ p ∈ progV vs Q, Seq 4 OpR.cells w p.ao p.len p.cap p.ops ∧ ∀ o ∈ p.ops, o.ok := fun p hp => by
    obtain ⟨j, hj, rfl⟩ := List.mem_map.1 hp
    have hj2 : j < Q.length := by simpa using hj
    obtain ⟨ao, cap, e, hs⟩ := row4_seq (h.ins j hj2)
    rw [e]
    exact ⟨hs, fun o ho => hok j o ho⟩
  rcases h.row.2 with ⟨rfl, h0⟩ | ⟨g, cap, cur, rfl, hg, hh, r1, r2, r3, r4⟩
  · refine ⟨none, 0, by rw [h0], ⟨⟨by rw [progV_len], by omega, Nat.zero_le _, fun hp => absurd hp (by omega)⟩, hins⟩⟩
  · have hown : w.ownsRow base 39 1 (.slice (some ⟨g, 0, none⟩) Q.length cap) Q.length ((List.range Q.length).map vs) := h.row
    refine ⟨_, cap, rfl, ⟨⟨by rw [progV_len], r1, r2, fun hp => ⟨g, 0, rfl, (Array.getElem?_eq_some_iff.1 hh).1, fun i x hi j u hu => ?_⟩⟩, hins⟩⟩
    have hiQ : i < Q.length := by rw [← progV_len vs Q]; exact (List.getElem?_eq_some_iff.1 hi).1
    obtain ⟨ao, cap2, e, hs⟩ := row4_seq (h.ins i hiQ)
    have ex : x = prV (vs i) (Q.getD i []) := by
      simp [progV, List.getElem?_range hiQ] at hi
      exact hi.symm
    rcases j with _ | j
    · rw [e] at ex
      subst ex
      simp only [PrR.cells, prV, List.getElem?_cons_zero, Option.some.injEq] at hu
      subst hu
      have := hown.cellAt i (by omega)
      rw [show 0 + i * 1 + 0 = i by omega, this]
      simp [List.getElem?_range, hiQ, e]
    · cases hu

/-- An operation moved to the i-th program's cells. -/
def mv (i : Nat) (o : OpR) : OpR := ⟨(nrm 4 o.k : Int) + 1, 4 * (i : Int) + (nrm 4 o.c : Int), o.a, o.b⟩
def mvP (Ps : List PrR) (i : Nat) : List OpR := (((Ps.map PrR.ops).getD i []).take 200).map (mv i)
def mvQ (Ps : List PrR) (k : Nat) : List (List OpR) := (List.range k).map (mvP Ps)
theorem mvQ_len (Ps : List PrR) (k : Nat) : (mvQ Ps k).length = k := by simp [mvQ]
theorem mvQ_at (Ps : List PrR) (k j : Nat) (h : j < k) : (mvQ Ps k).getD j [] = mvP Ps j := by simp [mvQ, List.getD, List.getElem?_range h, h]
theorem mvQ_out (Ps : List PrR) (k j : Nat) (h : k ≤ j) : (mvQ Ps k).getD j [] = [] := by simp [mvQ, List.getD, List.getElem?_eq_none, h]
theorem mvP_len (Ps : List PrR) (i : Nat) : (mvP Ps i).length ≤ 200 := by simp [mvP]; omega
end Go.Proofs.YtnpmldlnckbppaaDoor
