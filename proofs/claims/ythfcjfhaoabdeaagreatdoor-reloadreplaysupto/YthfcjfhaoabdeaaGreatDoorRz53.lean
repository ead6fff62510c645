/-
  The log with its disk; refuses, note, rests, Flushed, goOn. (Printed by gen_w6.py.)
-/
import Derived.Test.YthfcjfhaoabdeaaGreatDoorRz51
import Derived.Test.YthfcjfhaoabdeaaGreatDoorRz31
import Derived.Maps.AppendAt
import Derived.BigRegion
import Derived.Test.YthfcjfhaoabdeaaGreatDoorRz47
set_option linter.unusedVariables false
set_option linter.unusedSimpArgs false
namespace Go.Proofs.YthfcjfhaoabdeaaGreatDoor
open Go.RowKit Go.Maps

/-- Bodies that wait: a row of the log's own, each body in a block of the log's own. -/
def Wt (w : World) (A : Nat → Prop) (v : Value) (bs : List (List Int)) : Prop :=
  ∃ cs, w.ownsRow 0 82 1 v bs.length cs ∧ (∀ g, v.ownBlock = some g → A g) ∧ ∀ (i : Nat) (x : List Int), bs[i]? = some x → ∃ u, cs[i]? = some u ∧ Own w 0 u x ∧ Byt x ∧ ∀ g, u.ownBlock = some g → A g
section
variable {w w' : World} {A : Nat → Prop} {v : Value} {bs : List (List Int)}
theorem Wt.nil (w : World) (A : Nat → Prop) : Wt w A (.slice none 0 0) [] := ⟨[], World.ownsRow_nil _ _ _ _, (fun g e => by cases e), fun i x e => by cases e⟩
theorem Wt.same (h : Wt w A v bs) (hs : ∀ j, A j → w'.heap[j]? = w.heap[j]?) : Wt w' A v bs := by
  obtain ⟨cs, h1, h2, h3⟩ := h
  refine ⟨cs, row_same h1 (fun j e => hs j (h2 j e)), h2, fun i x e => ?_⟩
  obtain ⟨u, q1, q2, q3, q4⟩ := h3 i x e
  exact ⟨u, q1, row_same q2 (fun j e => hs j (q4 j e)), q3, q4⟩
end

/-- Numbers in bounds; N: as many tickets as were given. -/
structure LOk (S : Dsk) (L : Lg) (N : Nat) : Prop where
  s0 : 1 ≤ L.seg
  s1 : L.seg ≤ 1099511627776
  s2 : L.over = 0 → L.seg ≤ 1073741924 + S.P.n
  q : L.seq < 18446744073709551616
  st : L.step ≤ 3
  n : L.done + L.grp + L.wait.length ≤ N
  big : N ≤ 1000000
  okb : Okb L.wait
/-- The log at l on the disk at d: A: blocks that are theirs, all from B on. -/
structure PM (w : World) (B : Nat) (A : Nat → Prop) (l d : Nat) (S : Dsk) (L : Lg) (N : Nat) : Prop where
  it : ∃ D v, DV w D d S ∧ Lm w l d v L ∧ Wt w (fun j => A j ∧ ¬ D j ∧ j ≠ l) v L.wait ∧ (∀ j, D j → A j ∧ j ≠ l)
  al : A l
  lo : ∀ j, A j → B ≤ j ∧ j < w.heap.size
  bw : B ≤ w.heap.size
  gl : Gl B w
  ok : LOk S L N

section
variable {w w' : World} {B : Nat} {A D : Nat → Prop} {l d : Nat} {v : Value} {S S' : Dsk} {L L' : Lg} {N : Nat}
/-- What is done elsewhere. -/
theorem PM.keep (h : PM w B A l d S L N) {F : Nat → Prop} (hF : Fr F w w') (hA : ∀ j, A j → ¬ F j) (hB : ∀ j, F j → B ≤ j) : PM w' B A l d S L N := by
  obtain ⟨⟨D, v, h1, h2, h3, h4⟩, h5, h6, h7, h8, h9⟩ := h
  exact ⟨⟨D, v, h1.keep hF (fun j hj => hA j (h4 j hj).1), h2.fr hF (hA l h5), h3.same (fun j hj => hF.block j (h6 j hj.1).2 (hA j hj.1)), h4⟩, h5, fun j hj => ⟨(h6 j hj).1, Nat.lt_of_lt_of_le (h6 j hj).2 hF.size⟩, Nat.le_trans h7 hF.size, h8.on (hF.to (fun k hk e => by have := hB k e; omega) h7), h9⟩
theorem PM.below (h : PM w B A l d S L N) (hb : Below w.heap.size w w') : PM w' B A l d S L N := h.keep (F := fun _ => False) (Fr.below hb) (fun _ _ e => e) (fun _ e => e.elim)
/-! ### The small functions -/
end
end Go.Proofs.YthfcjfhaoabdeaaGreatDoor
