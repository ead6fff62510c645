/-
  What Put does.
-/
import Derived.Test.YtaibldodlbaknaaF6
set_option linter.unusedVariables false
set_option linter.unusedSimpArgs false
namespace Go.Proofs.Ytaibldodlbaknaa
open Go.RowKit

/-- A block that is a row of these bytes. -/
def Row (w : World) (g : Nat) (ys : List Int) : Prop := w.heap[g]? = some (.cells (bc ys).toArray 5 (0, 0))
theorem Row.cell {w : World} {g : Nat} {ys : List Int} (h : Row w g ys) (j : Nat) (hj : j < ys.length) : w.cell? ⟨g, j, none⟩ = some (.int .u8 (ys.getD j 0)) := by
  rw [cell_of_row w g j _ 5 (0, 0) h]
  simp [bc, List.getD, List.getElem?_eq_getElem hj]
theorem Row.free {w : World} {g : Nat} {ys : List Int} (h : Row w g ys) (j : Nat) : w.frozen? ⟨g, j, none⟩ = false := by
  unfold Row at h
  simp [World.frozen?, h]
theorem Row.lt {w : World} {g : Nat} {ys : List Int} (h : Row w g ys) : g < w.heap.size := (Array.getElem?_eq_some_iff.1 h).1
theorem Row.set {w : World} {g : Nat} {ys : List Int} (h : Row w g ys) (j : Nat) (x : Int) : Row (w.setCell ⟨g, j, none⟩ (.int .u8 x)) g (ys.set j x) := by
  unfold Row at *
  have hlt := (Array.getElem?_eq_some_iff.1 h).1
  simp only [World.setCell, Array.getElem?_modify, h]
  simp [bc, List.map_set]
theorem Row.below {B : Nat} {w w' : World} {g : Nat} {ys : List Int} (h : Row w g ys) (hb : Below B w w') (hg : g < B) : Row w' g ys := (hb.block g hg).trans h
theorem Row.drewN {w : World} {g : Nat} {ys : List Int} (h : Row w g ys) (q : Nat) : Row (w.drewN q) g ys := h
theorem Row.other {w : World} {g c i : Nat} {ys : List Int} {u : Value} (h : Row w g ys) (hne : g ≠ c) : Row (w.setCell ⟨c, i, none⟩ u) g ys := (Below.heap_setCell _ _ _ _ (by simpa using hne)).trans h
theorem Row.sl {w : World} {g : Nat} {ys : List Int} (h : Row w g ys) (hb : Byt ys) (len : Nat) (hl : len ≤ ys.length) (hm : ys.length ≤ maxLen) : Sl w (some ⟨g, 0, none⟩) len ys.length (ys.take len) := by
  refine ⟨by simp; omega, hl, hm, hb.take _, (fun e => by cases e), fun h0 => ⟨g, 0, rfl, h.lt, fun i hi => ?_⟩⟩
  rw [Nat.zero_add, h.cell i (by omega)]
  simp only [List.getD, List.getElem?_take_of_lt hi]
theorem Row.own {w : World} {base g : Nat} {ys : List Int} (h : Row w g ys) (hb : base ≤ g) (hm : ys.length ≤ maxLen) : Own w base (.slice (some ⟨g, 0, none⟩) ys.length ys.length) ys :=
  Own.of_block (rest := []) (by rw [List.append_nil]; exact h) hb (by simp) hm

/-- A slice of bytes copied onto a row. -/
theorem Row.copy {P : Program} {w : World} {g : Nat} {ys : List Int} (h : Row w g ys) {ao : Option Addr} {len cap : Nat} {xs : List Int} (hsl : Sl w ao len cap xs) (t : TypeId) (hu : P.underlying t = some (.slice 5)) (hs : (P.info? 5).map (·.size) = some 1) (ty : TypeId)
    (o dl dc : Nat) (hdl : len ≤ dl) (hfit : o + len ≤ ys.length) :
    ∃ w2, (Builtin.copy_ #[t, t] ty #[.slice (some ⟨g, o, none⟩) dl dc, .slice ao len cap]).run P w = .ok (.int .i64 (len : Int)) w2 ∧ Row w2 g (ys.take o ++ xs ++ ys.drop (o + len)) ∧ w.grownBy w2 (some g) ∧ w2.heap.size = w.heap.size := by
  obtain ⟨h1, h2, h3, h4, h5, h6⟩ := hsl
  by_cases hl : 0 < len
  · obtain ⟨b, off, rfl, hlt, hcell⟩ := h6 hl
    have hr := run_copy_row (P := P) w t t ty 5 g o dl dc ⟨b, off, none⟩ len cap _ 5 (bc xs) hu hs h (by rw [bc_length, h1]; exact (Nat.min_eq_left hdl).symm)
      (fun j v hj => by
        obtain ⟨hj1, rfl⟩ := bc_get xs j v hj
        rw [addr_add]
        exact hcell j (by omega)) (by rw [bc_length]; simp [bc]; omega) (bc_one xs)
    rw [show goInt (bc xs).length = .int .i64 (len : Int) from by simp [goInt, bc_length, h1]] at hr
    refine ⟨_, hr, ?_, ?_, by simp [World.setRow]⟩
    · unfold Row
      rw [setRow_heap _ _ _ _ _ _ h]
      congr 3
      simp [bc, h1]
    · exact ⟨rfl, rfl, rfl, by simp [World.setRow], fun k hk hne => setRow_other _ _ k _ (by simpa using hne)⟩
  · obtain rfl : len = 0 := by omega
    obtain rfl : xs = [] := List.eq_nil_of_length_eq_zero h1
    refine ⟨w, run_copy_none (P := P) _ t t ty 5 _ ao dl dc 0 cap hu hs (by simp), ?_, World.grownBy.refl _ _, rfl⟩
    simpa using h

theorem lay_snoc : ∀ (k : Nat) (kd : Int) (s : List Int), lay (k + 1) kd s = lay k kd s ++ ((if k = 0 then kd else 178) :: ((s.drop (31 * k)).take 31 ++ List.replicate (31 - ((s.drop (31 * k)).take 31).length) 0))
  | 0, kd, s => by simp [lay]
  | k + 1, kd, s => by
    rw [lay, lay_snoc k 178 (s.drop 31), lay, List.append_assoc]
    simp only [List.drop_drop]
    rw [show 31 + 31 * k = 31 * (k + 1) from by omega]
    congr 3
    split <;> simp

/-- So far the blocks are laid. -/
def laid (xs s : List Int) (K j : Nat) : List Int := xs ++ lay j 161 s ++ List.replicate (32 * (K - j)) 0
theorem laid_len (xs s : List Int) (K j : Nat) (h : j ≤ K) : (laid xs s K j).length = xs.length + 32 * K := by
  simp [laid, lay_len]; omega
theorem laid_step (xs s : List Int) (K j len : Nat) (hx : xs.length = len) (h : j < K) (kd : Int) (hk : kd = if j = 0 then 161 else 178) :
    ((laid xs s K j).set (len + 32 * j) kd).take (len + 32 * j + 1) ++ (s.drop (31 * j)).take 31 ++ ((laid xs s K j).set (len + 32 * j) kd).drop (len + 32 * j + 1 + ((s.drop (31 * j)).take 31).length) = laid xs s K (j + 1) := by
  have hl : (xs ++ lay j 161 s).length = len + 32 * j := by simp [lay_len, hx]
  have e1 : (laid xs s K j).set (len + 32 * j) kd = (xs ++ lay j 161 s) ++ (kd :: List.replicate (32 * (K - j) - 1) 0) := by
    unfold laid
    rw [show 32 * (K - j) = (32 * (K - j) - 1) + 1 from by omega, List.replicate_succ, List.set_append_right _ _ (by omega), hl, Nat.sub_self, List.set_cons_zero]
    simp
  have hp : ((s.drop (31 * j)).take 31).length ≤ 31 := by simp; omega
  rw [e1, laid, lay_snoc]
  generalize (s.drop (31 * j)).take 31 = p at *
  rw [List.take_append, List.drop_append, hl, List.take_of_length_le (by omega), List.drop_eq_nil_of_le (by omega)]
  rw [show len + 32 * j + 1 - (len + 32 * j) = 1 from by omega, show len + 32 * j + 1 + p.length - (len + 32 * j) = p.length + 1 from by omega]
  simp only [List.take_succ_cons, List.take_zero, List.drop_succ_cons, List.nil_append, List.drop_replicate, List.append_assoc, List.cons_append, List.singleton_append]
  rw [← hk]
  congr 4
  rw [List.replicate_append_replicate]
  congr 1
  omega
end Go.Proofs.Ytaibldodlbaknaa
