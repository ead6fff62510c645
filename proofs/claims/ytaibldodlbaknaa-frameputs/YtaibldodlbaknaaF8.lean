/-
  What Put does.
-/
import Derived.Test.YtaibldodlbaknaaF7
set_option linter.unusedVariables false
set_option linter.unusedSimpArgs false
namespace Go.Proofs.Ytaibldodlbaknaa
open Go.RowKit

/-- What Put answers. -/
def ptE (xs body : List Int) : Int := if ¬ xs.length % 32 = 0 then 2 else if 65536 < body.length then 40 else 0
def ptV (seq : Nat) (xs body : List Int) : List Int := if ptE xs body = 0 then xs ++ fra seq body else []

theorem sliced_at (g o l k c : Nat) (h : l < c) : Go.sliced (some ⟨g, o, none⟩) l k c 1 = .slice (some ⟨g, o + l, none⟩) (k - l) (c - l) := by
  unfold Go.sliced
  rw [if_neg (by omega)]
  simp [addr_add]

theorem madeRow (w : World) (n : Nat) : Row (w.alloc (.cells (madeCells #[.int .u8 0] n) 5)) w.heap.size (List.replicate n 0) := by
  unfold Row
  rw [heap_alloc_new]
  congr 2
  apply Array.toList_inj.1
  rw [toList_madeCells_one]
  simp [bc]

theorem gB {w w' : World} {g B : Nat} (h : w.grownBy w' (some g)) (hg : B ≤ g) (hB : B ≤ w.heap.size) : Below B w w' :=
  (Below.refl _ _).grown h hB fun k hk => by cases hk; exact hg
theorem gBox {w w' : World} {g b : Nat} {v : Value} {t : TypeId} (h : Box w b v t) (hg : w.grownBy w' (some g)) (hne : b ≠ g) : Box w' b v t := (hg.block b h.lt (by simpa using hne)).trans h

/-- How far the blocks are laid, and what the two closures keep. -/
structure Pj (w1 : World) (B : Nat) (xs s : List Int) (len K j : Nat) (wr : World) : Prop where
  row : Row wr B (laid xs s K j)
  b1 : ∃ v, Box wr (B + 1) v 22 ∧ (j < K → v = .slice (some ⟨B, len + 32 * j, none⟩) (32 * (K - j)) (32 * (K - j)))
  b2 : Box wr (B + 2) (.int .i64 32) 3
  b3 : ∃ a c, Box wr (B + 3) (.slice a (s.length - 31 * j) c) 22 ∧ Sl w1 a (s.length - 31 * j) c (s.drop (31 * j))
  b4 : Box wr (B + 4) (.int .i64 31) 3
  bel : Below B w1 wr
  size : B + 5 ≤ wr.heap.size

theorem Pj.drew {w1 : World} {B : Nat} {xs s : List Int} {len K j : Nat} {wr : World} (h : Pj w1 B xs s len K j wr) : Pj w1 B xs s len K j wr.drew :=
  ⟨h.row, h.b1, h.b2, h.b3, h.b4, below_drewN h.bel 1, h.size⟩

/-- What a round does: the block that is handed out, and its kind. -/
theorem Pj.one {w1 : World} {B : Nat} {xs s : List Int} {len K j : Nat} {wr : World} (h : Pj w1 B xs s len K j wr) (hx : xs.length = len) (hj : j < K) (kd : Int) (w3 : World)
    (hw3 : w3 = (wr.setCell ⟨B + 1, 0, none⟩ (Go.sliced (some ⟨B, len + 32 * j, none⟩) 32 (32 * (K - j)) (32 * (K - j)) 1)).setCell ⟨B, len + 32 * j, none⟩ (.int .u8 kd)) :
    Row w3 B ((laid xs s K j).set (len + 32 * j) kd) ∧ (∃ v, Box w3 (B + 1) v 22 ∧ (j + 1 < K → v = .slice (some ⟨B, len + 32 * (j + 1), none⟩) (32 * (K - (j + 1))) (32 * (K - (j + 1))))) ∧ Box w3 (B + 2) (.int .i64 32) 3 ∧
      (∃ a c, Box w3 (B + 3) (.slice a (s.length - 31 * j) c) 22 ∧ Sl w1 a (s.length - 31 * j) c (s.drop (31 * j))) ∧ Box w3 (B + 4) (.int .i64 31) 3 ∧ Below B w1 w3 ∧ B + 5 ≤ w3.heap.size := by
  obtain ⟨v, hb1, _⟩ := h.b1
  obtain ⟨a, c, hb3, hs3⟩ := h.b3
  subst hw3
  refine ⟨(h.row.other (by omega)).set _ _, ⟨_, (hb1.set _).other (by omega), fun hlt => ?_⟩, (h.b2.other (by omega)).other (by omega), ⟨a, c, (hb3.other (by omega)).other (by omega), hs3⟩, (h.b4.other (by omega)).other (by omega), (h.bel.setCell (by simp) _).setCell (by simp) _, by simpa [World.setCell] using h.size⟩
  rw [sliced_at _ _ _ _ _ (by omega), show len + 32 * j + 32 = len + 32 * (j + 1) from by omega, show 32 * (K - j) - 32 = 32 * (K - (j + 1)) from by omega]

/-- What a round does: the piece is copied into the block. -/
theorem Pj.two {w1 : World} {B : Nat} {xs s : List Int} {len K j : Nat} {w3 : World} (hB : B = w1.heap.size) (hx : xs.length = len) (hj : j < K) (hs : 31 * (K - 1) < s.length) (kd : Int) (hk : kd = if j = 0 then 161 else 178)
    (r1 : Row w3 B ((laid xs s K j).set (len + 32 * j) kd)) (r2 : ∃ v, Box w3 (B + 1) v 22 ∧ (j + 1 < K → v = .slice (some ⟨B, len + 32 * (j + 1), none⟩) (32 * (K - (j + 1))) (32 * (K - (j + 1))))) (r3 : Box w3 (B + 2) (.int .i64 32) 3)
    (a : Option Addr) (c : Nat) (r4 : Box w3 (B + 3) (.slice a (s.length - 31 * j) c) 22) (r5 : Sl w1 a (s.length - 31 * j) c (s.drop (31 * j))) (r6 : Box w3 (B + 4) (.int .i64 31) 3) (r7 : Below B w1 w3) (r8 : B + 5 ≤ w3.heap.size) :
    ∀ w4 : World, w4 = w3.drew.setCell ⟨B + 3, 0, none⟩ (Go.sliced a (min 31 (s.length - 31 * j)) (s.length - 31 * j) c 1) →
      ∃ a1 m w5, Go.sliced a 0 (min 31 (s.length - 31 * j)) c 1 = .slice a1 m c ∧ (Builtin.copy_ #[22, 22] 3 #[.slice (some ⟨B, len + 32 * j + 1, none⟩) 31 (32 * (K - j) - 1), .slice a1 m c]).run Try.prog w4 = .ok (.int .i64 (m : Int)) w5 ∧ Pj w1 B xs s len K (j + 1) w5 := by
  intro w4 hw4
  obtain ⟨a1, a2, e1, s1, e2, s2⟩ := r5.cutA (min 31 (s.length - 31 * j)) (by omega)
  have hml : min 31 (s.length - 31 * j) = ((s.drop (31 * j)).take 31).length := by simp
  have het : (s.drop (31 * j)).take (min 31 (s.length - 31 * j)) = (s.drop (31 * j)).take 31 := by
    by_cases hc : 31 ≤ s.length - 31 * j
    · rw [Nat.min_eq_left hc]
    · rw [Nat.min_eq_right (by omega), List.take_of_length_le (by simp), List.take_of_length_le (by simp; omega)]
  have hed : (s.drop (31 * j)).drop (min 31 (s.length - 31 * j)) = s.drop (31 * (j + 1)) := by
    rw [List.drop_drop]
    by_cases hc : 31 ≤ s.length - 31 * j
    · rw [Nat.min_eq_left hc]
      congr 1
    · rw [Nat.min_eq_right (by omega), List.drop_eq_nil_of_le (by omega), List.drop_eq_nil_of_le (by omega)]
  rw [het] at s1
  rw [hed] at s2
  have hm31 : min 31 (s.length - 31 * j) ≤ 31 := by omega
  have hls : s.length - 31 * (j + 1) = s.length - 31 * j - min 31 (s.length - 31 * j) := by omega
  generalize min 31 (s.length - 31 * j) = m at *
  have hb4 : Below B w1 w4 := by rw [hw4]; exact (below_drewN r7 1).setCell (by simp) _
  have hrow4 : Row w4 B ((laid xs s K j).set (len + 32 * j) kd) := by rw [hw4]; exact Row.other (w := w3.drew) r1 (by omega)
  have hll : ((laid xs s K j).set (len + 32 * j) kd).length = len + 32 * K := by rw [List.length_set, laid_len _ _ _ _ (by omega), hx]
  obtain ⟨w5, h5, hrow5, hg5, _⟩ := hrow4.copy (P := Try.prog) (s1.below (by rw [← hB]; exact hb4)) 22 Try.underlying22 (by kernel_rfl) 3 (len + 32 * j + 1) 31 (32 * (K - j) - 1) hm31 (by omega)
  refine ⟨a1, m, w5, e1, h5, ?_, ?_, ?_, ?_, ?_, ?_, ?_⟩
  · have := laid_step xs s K j len hx hj kd hk
    rw [← hml] at this
    rw [this] at hrow5
    exact hrow5
  · obtain ⟨v, q1, q2⟩ := r2
    refine ⟨v, gBox ?_ hg5 (by omega), q2⟩
    rw [hw4]
    exact Box.other (w := w3.drew) q1 (by omega)
  · refine gBox ?_ hg5 (by omega)
    rw [hw4]
    exact Box.other (w := w3.drew) r3 (by omega)
  · refine ⟨a2, c - m, gBox ?_ hg5 (by omega), by rw [hls]; exact s2⟩
    rw [hw4, e2, hls]
    exact Box.set (w := w3.drew) r4 _
  · refine gBox ?_ hg5 (by omega)
    rw [hw4]
    exact Box.other (w := w3.drew) r6 (by omega)
  · exact hb4.trans (gB hg5 (Nat.le_refl _) (by rw [hB]; exact hb4.size))
  · refine Nat.le_trans ?_ hg5.size
    rw [hw4]
    simpa [World.setCell] using r8
end Go.Proofs.Ytaibldodlbaknaa
