/-
  XmQ: Replies that are kept while a model goes on.
-/
import Derived.Test.YtheidhkmmihjlaaXmP
set_option linter.unusedVariables false
set_option linter.unusedSimpArgs false
namespace Go.Proofs.Ytheidhkmmihjlaa
open Go.RowKit
open ML (Ro RS Srt nless)

def Kr : Option Addr → List Nat
  | some a => [a.block]
  | none => []
section
variable {w w' : World} {X : Nat} {S : Ms} {B : Nat} {K : List Nat} {ao : Option Addr} {ln cp : Nat} {L : List Ro}
theorem rs_keep (h : RS w ao ln cp L) (hk : ∀ j ∈ Kr ao, w'.heap[j]? = w.heap[j]?) (hs : w.heap.size ≤ w'.heap.size) : RS w' ao ln cp L := by
  refine ⟨h.1, h.2.1, h.2.2.1, fun hl => ?_⟩
  obtain ⟨g, off, rfl, hlt, hc⟩ := h.2.2.2 hl
  exact ⟨g, off, rfl, Nat.lt_of_lt_of_le hlt hs, fun i r hi u hu x => (World.cell?_of_block (hk g (by simp [Kr]))).trans (hc i r hi u hu x)⟩
theorem mo_do2 (h : Mo B K w X S) (hLen : S.L.length + 64 ≤ big) (C : Cl) : Calls Try.prog 13 #[ptr X, C.v] w fun e w' =>
    ∃ ao ln cp, e = .returned (.agg #[.int .i64 (stp S C).2.code, .string (stp S C).2.val, .bool (stp S C).2.found, .slice ao ln cp, .int .i64 (stp S C).2.time, .int .i64 0]) ∧ RS w' ao ln cp (stp S C).2.rows ∧ Mo B (Kr ao ++ K) w' X (stp S C).1 ∧ Below B w w' ∧ Kp K w w' := by
  refine (mo_do h hLen C).mono ?_
  rintro e w' ⟨v, rfl, ⟨sv, rfl, hsv⟩, hm, hb, hk, hg⟩
  rcases hsv with ⟨rfl, h0⟩ | ⟨hne, ao, cap, rfl, h1, h2⟩
  · exact ⟨none, 0, 0, rfl, ⟨by rw [h0]; rfl, Nat.le_refl _, Nat.zero_le _, fun q => absurd q (Nat.lt_irrefl 0)⟩, hm, hb, hk⟩
  · have hl : 0 < (stp S C).2.rows.length := List.length_pos_iff.2 hne
    obtain ⟨g, rfl, hge, _⟩ := h2 hl
    obtain ⟨g', off, e1, hlt, _⟩ := h1.2.2.2 hl
    cases e1
    exact ⟨_, _, cap, rfl, h1, hg g hge hlt hne, hb, hk⟩
/-- Two replies that are kept. -/
structure Q4 (W : World) (B X A P : Nat) (oa os : Option Addr) (na ca ns cs : Nat) (code : Int) (all some_ : List Ro) (w : World) (S : Ms) : Prop where
  mo : Mo B (A :: P :: (Kr oa ++ Kr os)) w X S
  a : w.heap[A]? = some (.cells (rpA 0 .empty false (.slice oa na ca) 0) 41 (0, 0))
  p : w.heap[P]? = some (.cells (rpA code .empty false (.slice os ns cs) 0) 41 (0, 0))
  ra : RS w oa na ca all
  rs : RS w os ns cs some_
  low : Below W.heap.size W w
  base : W.heap.size ≤ B
variable {W : World} {A P : Nat} {oa os : Option Addr} {na ca ns cs : Nat} {code : Int} {all some_ : List Ro}
theorem Q4.step {S' : Ms} (h : Q4 W B X A P oa os na ca ns cs code all some_ w S) (hm : Mo B (A :: P :: (Kr oa ++ Kr os)) w' X S') (hb : Below B w w') (hk : Kp (A :: P :: (Kr oa ++ Kr os)) w w') : Q4 W B X A P oa os na ca ns cs code all some_ w' S' :=
  ⟨hm, (hk A (by simp)).trans h.a, (hk P (by simp)).trans h.p, rs_keep h.ra (fun j hj => hk j (by simp [hj])) hb.size, rs_keep h.rs (fun j hj => hk j (by simp [hj])) hb.size, h.low.trans (hb.mono h.base), h.base⟩
theorem Q4.below (h : Q4 W B X A P oa os na ca ns cs code all some_ w S) (hb : Below w.heap.size w w') : Q4 W B X A P oa os na ca ns cs code all some_ w' S :=
  h.step (h.mo.below hb) (hb.mono h.mo.base) (h.mo.kp hb)
end
end Go.Proofs.Ytheidhkmmihjlaa
