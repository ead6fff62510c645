/-
  Lb3: Readers do not hang on the order in which they came (LockReaders).
-/
import Derived.Test.YtafbchjmjfpilaaDoorLb2
import Derived.Test.YtafbchjmjfpilaaDoorLkL
set_option linter.unusedVariables false
set_option linter.unusedSimpArgs false
namespace Go.Proofs.YtafbchjmjfpilaaDoor
open Go.RowKit

/-- Those of a row that are workers. -/
def wk (l : List Int) : List Nat := (l.filter isW).map Int.toNat
theorem wk_lt {l : List Int} : ∀ y ∈ wk l, y < 16 := fun y hy => by
  obtain ⟨x, hx, rfl⟩ := List.mem_map.1 hy
  exact (isW_toNat (List.mem_filter.1 hx).2).2
theorem wk_snoc (l : List Int) (x : Int) : wk (l ++ [x]) = if isW x = true then wk l ++ [x.toNat] else wk l := by
  unfold wk
  rw [List.filter_append]
  by_cases h : isW x = true
  · rw [if_pos h]; simp [h]
  · rw [if_neg h]; simp [h]
theorem wk_rev {l : List Int} {y : Nat} : y ∈ wk l ↔ y ∈ wk l.reverse := by
  unfold wk
  simp [List.mem_map, List.mem_filter]
/-- All of a row have come. -/
def cm (l : List Int) : Nat := Lk.cme (wk l) 0
theorem cm_lt (l : List Int) : cm l < 65536 := Lk.cme_lt (by decide) wk_lt
theorem cm_rev (l : List Int) : cm l.reverse = cm l := (Lk.cme_same wk_lt (fun y => wk_rev)).symm
theorem cm_snoc (l : List Int) (x : Int) : cm (l ++ [x]) = if isW x = true then Lk.rdd (cm l) x.toNat else cm l := by
  unfold cm
  rw [wk_snoc]
  split
  · unfold Lk.cme; rw [List.foldl_append]; rfl
  · rfl
theorem wo_small {r : Nat} (h : r < 65536) : Lk.Wo r r 0 := ⟨by omega, h, Nat.zero_le _⟩
theorem rd_small {r : Nat} {x : Int} (h : r < 65536) : rdV r x = if isW x = true then (Lk.rdd r x.toNat, true, 0) else (0, false, 2) := by
  unfold rdV
  by_cases hx : isW x = true
  · rw [if_neg (by simp [hx]), if_pos hx, if_neg (by rw [(wo_small h).rt]; decide), if_pos ((Lk.agn_read (wo_small h) (isW_toNat hx).2).2 (.inl rfl))]
  · rw [if_pos (by simpa using hx), if_neg hx]
theorem rs_small {r : Nat} (h : r < 65536) : rsV r = Lk.rds r := by unfold rsV; rw [if_neg (by rw [(wo_small h).rt]; decide)]
theorem lv_small {r k : Nat} (h : r < 65536) (hk : k < 16) : lvV r (k : Int) = (Lk.lvr r k, 0) := by
  unfold lvV
  rw [if_neg (by rw [isW_nat hk]; decide), if_neg (by rw [(wo_small h).rt]; decide)]
  simp [Lk.lvd_small h hk]
theorem gon_snoc (l : List Nat) (k w : Nat) : Lk.gon (l ++ [k]) w = Lk.lvr (Lk.gon l w) k := by unfold Lk.gon; rw [List.foldl_append]; rfl
theorem take_snoc {α : Type} {l : List α} {i : Nat} {x : α} (h : l[i]? = some x) : l.take (i + 1) = l.take i ++ [x] := by
  rw [List.take_add_one, h]; rfl

section
set_option maxHeartbeats 4000000
set_option maxRecDepth 100000
variable {w : World} {ao : Option Addr} {len cap : Nat} {xs : List Int}
end
end Go.Proofs.YtafbchjmjfpilaaDoor
