/-
  Frames one behind the other: plain mathematics, and a slice of bodies in memory.
-/
import Derived.Test.YtaibldodlbaknaaF9
import Derived.Maps.AppendAt
set_option linter.unusedVariables false
set_option linter.unusedSimpArgs false
namespace Go.Proofs.Ytaibldodlbaknaa
open Go.RowKit

/-- Where one is, and which number is looked for, behind frames with these bodies. -/
def goes (xs : List Int) : List (List Int) → Nat → Nat → Option (Nat × Nat)
  | [], a, f => some (a, f)
  | b :: bs, a, f => if takA xs (a : Int) = some (f, b) then goes xs bs (a + 32 * nb b.length) ((f + 1) % 18446744073709551616) else none

theorem goes_snoc (xs : List Int) : ∀ (bs : List (List Int)) (b : List Int) (a f p q : Nat), goes xs bs a f = some (p, q) → takA xs (p : Int) = some (q, b) → goes xs (bs ++ [b]) a f = some (p + 32 * nb b.length, (q + 1) % 18446744073709551616)
  | [], b, a, f, p, q, h, ht => by
    simp only [goes, Option.some.injEq, Prod.mk.injEq] at h
    obtain ⟨rfl, rfl⟩ := h
    simp [goes, ht]
  | c :: cs, b, a, f, p, q, h, ht => by
    simp only [goes] at h
    split at h
    · rename_i hc
      simp only [List.cons_append, goes, hc, if_true]
      exact goes_snoc xs cs b _ _ p q h ht
    · cases h

theorem goes_det (xs : List Int) : ∀ (bs cs : List (List Int)) (a f p q p' q' : Nat), goes xs bs a f = some (p, q) → goes xs cs a f = some (p', q') → (∀ b, takA xs (p : Int) ≠ some (q, b)) → (∀ b, takA xs (p' : Int) ≠ some (q', b)) → bs = cs ∧ p = p' ∧ q = q'
  | [], [], a, f, p, q, p', q', h, k, _, _ => by
    simp only [goes, Option.some.injEq, Prod.mk.injEq] at h k
    exact ⟨rfl, h.1 ▸ k.1, h.2 ▸ k.2⟩
  | [], c :: cs, a, f, p, q, p', q', h, k, hs, _ => by
    simp only [goes, Option.some.injEq, Prod.mk.injEq] at h k
    obtain ⟨rfl, rfl⟩ := h
    split at k
    · rename_i hc
      exact absurd hc (hs c)
    · cases k
  | b :: bs, [], a, f, p, q, p', q', h, k, _, hs => by
    simp only [goes, Option.some.injEq, Prod.mk.injEq] at h k
    obtain ⟨rfl, rfl⟩ := k
    split at h
    · rename_i hc
      exact absurd hc (hs b)
    · cases h
  | b :: bs, c :: cs, a, f, p, q, p', q', h, k, h1, h2 => by
    simp only [goes] at h k
    split at h
    · rename_i hb
      split at k
      · rename_i hc
        rw [hb] at hc
        simp only [Option.some.injEq, Prod.mk.injEq, true_and] at hc
        subst hc
        obtain ⟨e1, e2, e3⟩ := goes_det xs bs cs _ _ p q p' q' h k h1 h2
        exact ⟨by rw [e1], e2, e3⟩
      · cases k
    · cases h

theorem takA_some {xs : List Int} (hb : Byt xs) {a : Nat} {seq : Nat} {body : List Int} (h : takA xs (a : Int) = some (seq, body)) :
    a < xs.length ∧ a % 32 = 0 ∧ tak (xs.drop a) = some (seq, body) ∧ a + 32 * nb body.length ≤ xs.length ∧ seq < 18446744073709551616 ∧ Byt body ∧ body.length ≤ 65536 := by
  unfold takA at h
  split at h
  · rename_i hc
    rw [Int.toNat_natCast] at h
    obtain ⟨h1, h2, h3, h4, h5, _⟩ := tak_some (hb.drop a) h
    rw [List.length_drop] at h5
    exact ⟨by omega, by omega, h, by omega, h1, h2, h3⟩
  · cases h

theorem goes_le {xs : List Int} (hb : Byt xs) : ∀ (bs : List (List Int)) (a f p q : Nat), goes xs bs a f = some (p, q) → a ≤ xs.length → a % 32 = 0 → f < 18446744073709551616 → p ≤ xs.length ∧ a + 32 * bs.length ≤ p ∧ q < 18446744073709551616 ∧ p % 32 = 0
  | [], a, f, p, q, h, ha, h32, hf => by
    simp only [goes, Option.some.injEq, Prod.mk.injEq] at h
    obtain ⟨rfl, rfl⟩ := h
    exact ⟨ha, by simp, hf, h32⟩
  | b :: bs, a, f, p, q, h, ha, h32, hf => by
    simp only [goes] at h
    split at h
    · rename_i hc
      obtain ⟨h1, h2, h3, h4, _⟩ := takA_some hb hc
      have hp := nb_pos b.length
      obtain ⟨i1, i2, i3, i4⟩ := goes_le hb bs _ _ p q h h4 (by omega) (by omega)
      exact ⟨i1, by simp only [List.length_cons]; omega, i3, i4⟩
    · cases h

/-- A frame from a place on, with a number that is not below. -/
def Late (xs : List Int) (a least : Nat) : Prop := ∃ i seq body, takA xs ((a + 32 * i : Nat) : Int) = some (seq, body) ∧ least ≤ seq

/-- A slice of bodies, each in a block of its own. -/
def Bs (w : World) (base : Nat) (v : Value) (bs : List (List Int)) : Prop :=
  ∃ (cs : List Value) (G : Nat → Nat), w.ownsRow base 22 1 v bs.length cs ∧ (∀ i, i < bs.length → ∃ u, cs[i]? = some u ∧ Bd w base (G i) u (bs.getD i [])) ∧ ∀ i j, i < j → j < bs.length → G i < G j

theorem Bs.nil (w : World) (base : Nat) : Bs w base (.slice none 0 0) [] :=
  ⟨[], fun _ => 0, World.ownsRow_nil _ _ _ _, fun i hi => absurd hi (by simp), fun i j _ hj => absurd hj (by simp)⟩

theorem Bd.lt {w : World} {base g : Nat} {v : Value} {body : List Int} (h : Bd w base g v body) : g < w.heap.size := by
  obtain ⟨_, ⟨cur, b2⟩, _⟩ := h
  exact (Array.getElem?_eq_some_iff.1 b2).1
theorem Bd.below {w w' : World} {base g : Nat} {v : Value} {body : List Int} (h : Bd w base g v body) (hb : Below w.heap.size w w') : Bd w' base g v body := by
  have hl := h.lt
  obtain ⟨b1, ⟨cur, b2⟩, ao3, c3, b3, b4, b5⟩ := h
  exact ⟨b1, ⟨cur, (hb.block g hl).trans b2⟩, ao3, c3, b3, b4.below hb, b5⟩
theorem Bd.weak {w : World} {base base' g : Nat} {v : Value} {body : List Int} (h : Bd w base g v body) (hb : base' ≤ base) : Bd w base' g v body := by
  obtain ⟨b1, h2⟩ := h
  exact ⟨by omega, h2⟩
theorem Sl.grownS {w w' : World} {row : Option Nat} {ao : Option Addr} {len cap : Nat} {xs : List Int} (h : Sl w ao len cap xs) (hg : w.grownBy w' row) (hne : ∀ b off, ao = some ⟨b, off, none⟩ → some b ≠ row) : Sl w' ao len cap xs := by
  obtain ⟨h1, h2, h3, h4, h5, h6⟩ := h
  refine ⟨h1, h2, h3, h4, h5, fun hl => ?_⟩
  obtain ⟨b, off, e, hlt, hc⟩ := h6 hl
  refine ⟨b, off, e, Nat.lt_of_lt_of_le hlt hg.size, fun i hi => ?_⟩
  exact (World.cell?_of_block (hg.block b hlt (hne b off e))).trans (hc i hi)
theorem Bd.grown {w w' : World} {row : Option Nat} {base g : Nat} {v : Value} {body : List Int} (h : Bd w base g v body) (hg : w.grownBy w' row) (hne : some g ≠ row) : Bd w' base g v body := by
  have hl := h.lt
  obtain ⟨b1, ⟨cur, b2⟩, ao3, c3, b3, b4, b5⟩ := h
  exact ⟨b1, ⟨cur, (hg.block g hl hne).trans b2⟩, ao3, c3, b3, b4.grownS hg (fun b off e => by rw [b5 b off e]; exact hne), b5⟩
/-- The row of bodies is no body's block. -/
theorem row_ne {w : World} {base base' n g : Nat} {v u : Value} {cs : List Value} {body : List Int} (h : w.ownsRow base 22 1 v n cs) (hb : Bd w base' g u body) : some g ≠ v.ownBlock := by
  intro e
  rcases h.2 with ⟨rfl, _⟩ | ⟨g', cap, cur, rfl, _, hh, _⟩
  · cases e
  · simp only [Value.ownBlock, Option.some.injEq] at e
    subst e
    obtain ⟨_, ⟨cur2, b2⟩, _⟩ := hb
    rw [hh] at b2
    simp at b2
theorem row_up {w w' : World} {base n : Nat} {v : Value} {cs : List Value} (h : w.ownsRow base 22 1 v n cs) (hb : Below w.heap.size w w') : w'.ownsRow base 22 1 v n cs := by
  refine World.ownsRow.kept h (row := none) ⟨hb.os, hb.tape, hb.output, hb.size, fun k hk _ => hb.block k hk⟩ ?_
  cases hv : v.ownBlock <;> simp
theorem Bs.below {w w' : World} {base : Nat} {v : Value} {bs : List (List Int)} (h : Bs w base v bs) (hb : Below w.heap.size w w') : Bs w' base v bs := by
  obtain ⟨cs, G, h1, h2, h3⟩ := h
  refine ⟨cs, G, row_up h1 hb, fun i hi => ?_, h3⟩
  obtain ⟨u, e, hd⟩ := h2 i hi
  exact ⟨u, e, hd.below hb⟩
theorem Bs.len {w : World} {base : Nat} {v : Value} {bs : List (List Int)} (h : Bs w base v bs) : ∃ ao c, v = .slice ao bs.length c := by
  obtain ⟨cs, G, h1, _⟩ := h
  rcases h1.2 with ⟨rfl, h0⟩ | ⟨g, cap, cur, rfl, _⟩
  · exact ⟨none, 0, by rw [h0]⟩
  · exact ⟨_, _, rfl⟩
/-- A body put behind the others. -/
theorem Bs.push {w w' : World} {base g : Nat} {v v' u : Value} {bs : List (List Int)} {b : List Int} {cs : List Value} {G : Nat → Nat} (h2 : ∀ i, i < bs.length → ∃ u, cs[i]? = some u ∧ Bd w base (G i) u (bs.getD i [])) (h3 : ∀ i j, i < j → j < bs.length → G i < G j) (h1 : w.ownsRow base 22 1 v bs.length cs)
    (hd : Bd w base g u b) (hg : ∀ i, i < bs.length → G i < g) (hgr : w.grownBy w' v.ownBlock) (hr : w'.ownsRow base 22 1 v' (bs.length + 1) (cs ++ [u])) : Bs w' base v' (bs ++ [b]) := by
  have hcl : cs.length = bs.length := by have := h1.1; omega
  refine ⟨cs ++ [u], fun i => if i < bs.length then G i else g, by simpa using hr, fun i hi => ?_, fun i j hij hj => ?_⟩
  · by_cases hlt : i < bs.length
    · obtain ⟨u', e, hd'⟩ := h2 i hlt
      refine ⟨u', by rw [List.getElem?_append_left (by omega)]; exact e, ?_⟩
      simp only [hlt, if_true]
      have e2 : (bs ++ [b]).getD i [] = bs.getD i [] := by simp [List.getD, List.getElem?_append_left hlt]
      rw [e2]
      exact hd'.grown hgr (row_ne h1 hd')
    · have hi2 : i = bs.length := by simp at hi; omega
      subst hi2
      refine ⟨u, by rw [List.getElem?_append_right (by omega), hcl]; simp, ?_⟩
      simp only [Nat.lt_irrefl, if_false]
      have e2 : (bs ++ [b]).getD bs.length [] = b := by simp [List.getD]
      rw [e2]
      exact hd.grown hgr (row_ne h1 hd)
  · simp at hj
    simp only []
    by_cases hlt : j < bs.length
    · rw [if_pos (by omega), if_pos hlt]
      exact h3 i j hij hlt
    · rw [if_pos (by omega), if_neg hlt]
      exact hg i (by omega)
end Go.Proofs.Ytaibldodlbaknaa
