/-
  Turns, the document's.
-/
import Derived.Test.YtnpmldlnckbppaaDoorT6
set_option linter.unusedVariables false
set_option linter.unusedSimpArgs false
namespace Go.Proofs.YtnpmldlnckbppaaDoor
open Go.RowKit

def upTo (W : List Nat) (k : Nat) : List Nat := (W.take k).map (· + 1) ++ W.drop k
theorem upTo_len (W : List Nat) (k : Nat) : (upTo W k).length = W.length := by simp [upTo]; omega
theorem upTo_at (W : List Nat) (k j : Nat) (hj : j < W.length) : (upTo W k).getD j 0 = if j < k then W.getD j 0 + 1 else W.getD j 0 := by
  unfold upTo
  simp only [List.getD, List.getElem?_append, List.length_map, List.length_take, List.getElem?_map, List.getElem?_take, List.getElem?_drop]
  by_cases h : j < k
  · have : j < min k W.length := by omega
    simp [h, this, List.getElem?_eq_getElem hj]
  · have : ¬ j < min k W.length := by omega
    have e : k + (j - min k W.length) = j := by omega
    simp [h, this, e]
theorem ints_at (W : List Nat) (k : Nat) : (ints W).getD k 0 = (W.getD k 0 : Nat) := by
  unfold ints
  simp only [List.getD, List.getElem?_map]
  cases W[k]? <;> rfl
theorem ints_set (W : List Nat) (k x : Nat) : (ints W).set k (x : Int) = ints (W.set k x) := by
  unfold ints
  rw [List.map_set]
theorem nat_ext {L M : List Nat} (h : L.length = M.length) (he : ∀ k, k < L.length → L.getD k 0 = M.getD k 0) : L = M := by
  apply List.ext_getElem h
  intro i h1 h2
  have := he i h1
  simpa [List.getD, List.getElem?_eq_getElem h1, List.getElem?_eq_getElem h2] using this
theorem getD_setN (W : List Nat) (k x j : Nat) : (W.set k x).getD j 0 = if j = k ∧ k < W.length then x else W.getD j 0 := by
  simp only [List.getD, List.getElem?_set]
  by_cases h : k = j
  · subst h
    by_cases h2 : k < W.length
    · simp [h2]
    · simp [h2, List.getElem?_eq_none (by omega : W.length ≤ k)]
  · rw [if_neg h, if_neg (fun e => h e.1.symm)]
theorem upTo_set (W : List Nat) (k : Nat) (hk : k < W.length) : (upTo W k).set k (W.getD k 0 + 1) = upTo W (k + 1) := by
  apply nat_ext (by simp [upTo_len])
  intro j hj
  rw [List.length_set, upTo_len] at hj
  rw [getD_setN, upTo_len, upTo_at W k j hj, upTo_at W (k + 1) j hj]
  by_cases h : j = k
  · subst h
    rw [if_pos ⟨rfl, hk⟩, if_pos (by omega)]
  · rw [if_neg (fun e => h e.1)]
    by_cases h2 : j < k
    · rw [if_pos h2, if_pos (by omega)]
    · rw [if_neg h2, if_neg (by omega)]
theorem upTo_all (W : List Nat) (q : Nat) (hq : q < W.length) : (upTo W W.length).set q 0 = comeW W q := by
  apply nat_ext (by simp [upTo_len, comeW_len])
  intro j hj
  rw [List.length_set, upTo_len] at hj
  rw [getD_setN, upTo_len, upTo_at W _ j hj, comeW_at W q j hj, if_pos hj]
  by_cases h : j = q
  · rw [if_pos ⟨h, hq⟩, if_pos h]
  · rw [if_neg (fun e => h e.1), if_neg h]

set_option maxRecDepth 100000 in
set_option maxHeartbeats 2000000 in
theorem come_any (w : World) (g n q : Nat) (W : List Nat) (hI : Ib w g (ints W)) (hn : W.length = n) (hn2 : n ≤ 16) (hq : q < n) (hb : ∀ k, k < n → W.getD k 0 < 100000000) :
    Calls Tryd.prog 30 #[.slice (some ⟨g, 0, none⟩) n n, .int .i64 (q : Int)] w fun e w' => e = .returned (.tuple #[]) ∧ Ib w' g (ints (comeW W q)) ∧ Fr (fun j => j = g) w w' := by
  have HW := hide2 hn
  have e0 : ints W = ints (upTo W 0) := by simp [upTo]
  rw [e0] at hI
  go_enter Tryd.func30, Tryd.ntmps30
  go_wp2
  go_loopw [4] (fun i wr => ∃ k : Nat, k ≤ n ∧ i = .int .i64 k ∧ Ib wr g (ints (upTo W k)) ∧ Fr (fun j => j = g) w wr) (fun i _ => n - (intOf i).toNat)
  case atStart => exact ⟨0, by omega, rfl, hI, Fr.refl _ _⟩
  case round =>
    clear hI e0
    obtain ⟨k, hk, rfl, hI, hF⟩ := hrel
    have hul : (ints (upTo W k)).length = n := by rw [ints_len, upTo_len, HW.out]
    by_cases hkn : k < n
    · have c0 := hI.cell k (by omega)
      have f0 := hI.free k
      rw [ints_at, upTo_at W k k (by omega), if_neg (by omega)] at c0
      have hI2 := hI.set k ((W.getD k 0 + 1 : Nat) : Int)
      rw [ints_set, upTo_set W k (by omega)] at hI2
      have hF2 := hF.setCell (p := ⟨g, k, none⟩) (.inl rfl) (.int .i64 ((W.getD k 0 + 1 : Nat) : Int))
      have hkn2 : (k : Int) < (n : Int) := by omega
      have hbk := hb k hkn
      have hgl := hI.lt
      have HI2 := hide2 hI2
      have HF2 := hide2 hF2
      clear hI hF hI2 hF2 hn
      generalize W.getD k 0 = x at *
      have u1 : ((x + 1 : Nat) : Int) = (x : Int) + 1 := by omega
      rw [u1] at HI2 HF2
      go_wp2
      go_roundw
      case rel => exact ⟨k + 1, by omega, by go_num, HI2.out, HF2.out⟩
      case measure => simp [intOf]; omega
    · obtain rfl : n = k := by omega
      have c0 := hI.cell q (by omega)
      have f0 := hI.free q
      have hI2 := hI.set q ((0 : Nat) : Int)
      rw [ints_set, ← HW.out, upTo_all W q (by omega)] at hI2
      have hF2 := hF.setCell (p := ⟨g, q, none⟩) (.inl rfl) (.int .i64 ((0 : Nat) : Int))
      have hq2 : (q : Int) < (n : Int) := by omega
      have hgl := hI.lt
      generalize (ints (upTo W n)).getD q 0 = x at *
      have HI2 := hide2 hI2
      have HF2 := hide2 hF2
      clear hI hF hI2 hF2 hn
      go_wp2
      go_end0
      exact ⟨rfl, HI2.out, HF2.out⟩

/-- The document's turns: how long each waits, the list. -/
structure Tr (w : World) (B wb n : Nat) (l : List Nat) (lv : Value) : Prop where
  waits : Ib w wb (ints (Wl n l))
  row : w.ownsRow B 3 1 lv l.length ((ints l).map (Value.int .i64))
  low : wb < B
  base : B ≤ w.heap.size
theorem Tr.form {w : World} {B wb n : Nat} {l : List Nat} {lv : Value} (h : Tr w B wb n l lv) : ∃ ao cap, lv = .slice ao l.length cap := by
  rcases Go.Joins.ownsRow_forms h.row with ⟨rfl, h0⟩ | ⟨g, cap, rfl⟩
  · exact ⟨none, 0, by rw [h0]⟩
  · exact ⟨_, cap, rfl⟩
theorem Tr.drewN {w : World} {B wb n : Nat} {l : List Nat} {lv : Value} (h : Tr w B wb n l lv) (q : Nat) : Tr (w.drewN q) B wb n l lv := ⟨h.waits, row_fr (G := fun _ => False) h.row (Fr.drewN (Fr.refl _ w) q) (fun _ _ e => e), h.low, h.base⟩
/-- One more is laid: the row has grown; then 'come'. -/
theorem Tr.grown {w w4 w' : World} {B wb n : Nat} {l : List Nat} {lv v' : Value} (h : Tr w B wb n l lv) (q : Nat) (hown : w4.ownsRow B 3 1 v' (l.length + 1) ((ints l).map (Value.int .i64) ++ [.int .i64 (q : Int)])) (hs : B ≤ w4.heap.size)
    (hI : Ib w' wb (ints (comeW (Wl n l) q))) (hF : Fr (fun j => j = wb) w4 w') : Tr w' B wb n (l ++ [q]) v' := by
  refine ⟨by rw [Wl_snoc]; exact hI, ?_, h.low, Nat.le_trans hs hF.size⟩
  have hl := h.low
  have := row_fr hown hF (fun j hj e => by have := (hown.lt j hj).1; omega)
  rw [ints_snoc]
  simpa using this
def lenV : Value → Nat
  | .slice _ l _ => l
  | _ => 0
/-- Of the first k the first who has waited longest. -/
def TopK (W : List Nat) (k q : Nat) : Prop := q < k ∧ (∀ j, j < k → W.getD j 0 ≤ W.getD q 0) ∧ ∀ j, j < q → W.getD j 0 < W.getD q 0
end Go.Proofs.YtnpmldlnckbppaaDoor
