/-
  The small functions: which texts, times and numbers may be; which rows are right; of the program and of the document.
-/
import Derived.Test.YthfcjfhaoabdeaaGreatDoorRows
import Derived.Test.YthfcjfhaoabdeaaGreatDoorRz11
import Derived.Shelf.Abstract
import Derived.BigQuiet
import Derived.Deep.RegionWith
import Derived.Test.YthfcjfhaoabdeaaGreatDoorRz1
import Derived.Lib.SmallJoins
import Derived.Lib.OwnKind
set_option linter.unusedVariables false
set_option linter.unusedSimpArgs false
namespace Go.Proofs.YthfcjfhaoabdeaaGreatDoor
open Go.RowKit

theorem isEmpty_eq (b : ByteArray) : b.toList.isEmpty = decide (b.size = 0) := by
  rw [ByteArray.toList_eq]
  have e : b.size = b.data.toList.length := by rw [Array.length_toList]; rfl
  rw [e]
  cases b.data.toList with
  | nil => rfl
  | cons x r => simp
section
variable (w : World)
set_option maxRecDepth 100000
set_option maxHeartbeats 1000000

theorem key_any (s : ByteArray) : Calls Tryz.prog 90 #[.string s] w fun e w' => e = .returned (.bool (isK s)) ∧ w' = w := by
  unfold isK
  have h0 : (s.size : Int) = (s.size : Int) := rfl
  by_cases h1 : 1 ≤ s.size
  all_goals by_cases h2 : s.size ≤ 16
  all_goals
    go_enter Tryz.func90, Tryz.ntmps90
    go_wp2
  all_goals go_ret
  all_goals exact ⟨ret_boolB (by first | (simp [h1, h2]; done) | (simp [h1, h2]; omega)), rfl⟩
theorem refKey_any (s : ByteArray) : Calls Tryz.prog 44 #[.string s] w fun e w' => e = .returned (.bool (isK s)) ∧ w' = w := by
  unfold isK
  have h0 : (s.size : Int) = (s.size : Int) := rfl
  by_cases h1 : 1 ≤ s.size
  all_goals by_cases h2 : s.size ≤ 16
  all_goals
    go_enter Tryz.func44, Tryz.ntmps44
    go_wp2
  all_goals go_ret
  all_goals exact ⟨ret_boolB (by first | (simp [h1, h2]; done) | (simp [h1, h2]; omega)), rfl⟩
theorem val_any (s : ByteArray) : Calls Tryz.prog 91 #[.string s] w fun e w' => e = .returned (.bool (isV s)) ∧ w' = w := by
  unfold isV
  go_enter Tryz.func91, Tryz.ntmps91
  go_wp2
  go_ret
  exact ⟨ret_boolB (by simp; try omega), rfl⟩
theorem refVal_any (s : ByteArray) : Calls Tryz.prog 45 #[.string s] w fun e w' => e = .returned (.bool (isV s)) ∧ w' = w := by
  unfold isV
  go_enter Tryz.func45, Tryz.ntmps45
  go_wp2
  go_ret
  exact ⟨ret_boolB (by simp; try omega), rfl⟩
theorem time_any (t : Int) : Calls Tryz.prog 92 #[.int .i64 t] w fun e w' => e = .returned (.bool (isT t)) ∧ w' = w := by
  unfold isT
  by_cases h1 : 0 ≤ t <;> by_cases h2 : t ≤ 1099511627775 <;>
  · go_enter Tryz.func92, Tryz.ntmps92
    go_wp2
    go_ret
    exact ⟨ret_boolB (by simp; try omega), rfl⟩
theorem timed_any (t : Int) : Calls Tryz.prog 46 #[.int .i64 t] w fun e w' => e = .returned (.bool (isT t)) ∧ w' = w := by
  unfold isT
  by_cases h1 : 0 ≤ t <;> by_cases h2 : t < 1099511627776 <;>
  · go_enter Tryz.func46, Tryz.ntmps46
    go_wp2
    go_ret
    exact ⟨ret_boolB (by simp; try omega), rfl⟩
end

/-- A row, a gone, a write, a pair as values. -/
def Rw.v (r : Rw) : Value := .agg #[.string r.key, .string r.val, .int .i64 r.time]
def Wr.v (w : Wr) : Value := .agg #[.string w.key, .string w.val, .bool w.gone]
def Pr.v (p : Pr) : Value := .agg #[.int .i64 p.num, .int .i64 p.frm, .int .i64 p.til]

section
variable (w : World)
set_option maxRecDepth 100000
set_option maxHeartbeats 1000000

theorem rightRow_any (r : Rw) : Calls Tryz.prog 89 #[r.v] w fun e w' => e = .returned (.bool (rightR r)) ∧ Below w.heap.size w w' := by
  obtain ⟨k, v, t⟩ := r
  unfold rightR Rw.v
  simp only []
  have hb : Below w.heap.size w (w.alloc (.cells #[.string k, .string v, .int .i64 t] 33)) := (Below.refl _ _).alloc (Nat.le_refl _) _
  cases h1 : isK k <;> cases h2 : isV v <;>
  · go_enter Tryz.func89, Tryz.ntmps89
    go_wp2_with (first
      | (go_at_call 90; refine (key_any _ _).mono ?_; rintro e w' ⟨rfl, rfl⟩; rw [h1])
      | (go_at_call 91; refine (val_any _ _).mono ?_; rintro e w' ⟨rfl, rfl⟩; rw [h2])
      | (go_at_call 92; refine (time_any _ _).mono ?_; rintro e w' ⟨rfl, rfl⟩)
      | fail)
    go_ret
    exact ⟨ret_boolB (by simp), hb⟩
theorem refRightRow_any (r : Rw) : Calls Tryz.prog 25 #[r.v] w fun e w' => e = .returned (.bool (rightR r)) ∧ Below w.heap.size w w' := by
  obtain ⟨k, v, t⟩ := r
  unfold rightR Rw.v
  simp only []
  have hb : Below w.heap.size w (w.alloc (.cells #[.string k, .string v, .int .i64 t] 33)) := (Below.refl _ _).alloc (Nat.le_refl _) _
  cases h1 : isK k <;> cases h2 : isV v <;>
  · go_enter Tryz.func25, Tryz.ntmps25
    go_wp2_with (first
      | (go_at_call 44; refine (refKey_any _ _).mono ?_; rintro e w' ⟨rfl, rfl⟩; rw [h1])
      | (go_at_call 45; refine (refVal_any _ _).mono ?_; rintro e w' ⟨rfl, rfl⟩; rw [h2])
      | (go_at_call 46; refine (timed_any _ _).mono ?_; rintro e w' ⟨rfl, rfl⟩)
      | fail)
    go_ret
    exact ⟨ret_boolB (by simp), hb⟩
theorem rightWrite_any (x : Wr) : Calls Tryz.prog 149 #[x.v] w fun e w' => e = .returned (.bool (okW x)) ∧ Below w.heap.size w w' := by
  obtain ⟨k, v, g⟩ := x
  unfold okW Wr.v
  simp only []
  have hb : Below w.heap.size w (w.alloc (.cells #[.string k, .string v, .bool g] 37)) := (Below.refl _ _).alloc (Nat.le_refl _) _
  have ht : v.toList.isEmpty = decide (v.size = 0) := (isEmpty_eq v)
  cases g <;> by_cases h0 : v.size = 0 <;> cases h1 : isK k <;>
  · (first | rw [decide_eq_true h0] at ht | rw [decide_eq_false h0] at ht)
    go_enter Tryz.func149, Tryz.ntmps149
    go_wp2_with (first
      | (go_at_call 90; refine (key_any _ _).mono ?_; rintro e w' ⟨rfl, rfl⟩; rw [h1])
      | (go_at_call 91; refine (val_any _ _).mono ?_; rintro e w' ⟨rfl, rfl⟩)
      | fail)
    go_ret
    exact ⟨ret_boolB (by simp [h0]), hb⟩
end
end Go.Proofs.YthfcjfhaoabdeaaGreatDoor

/-
  Which commits are right: the program's loop and the document's.
-/
set_option linter.unusedVariables false
set_option linter.unusedSimpArgs false
namespace Go.Proofs.YthfcjfhaoabdeaaGreatDoor
open Go.RowKit

theorem ehide3 {p : Prop} (h : p) : Hid p := h
def Wr.cells (x : Wr) : List Value := [.string x.key, .string x.val, .bool x.gone]
/-- One element's three cells. -/
theorem Seq.three {α : Type} {f : α → List Value} {w : World} {ao : Option Addr} {len cap : Nat} {xs : List α} (h : Seq 3 f w ao len cap xs) (hl : 0 < len) :
    ∃ b off, ao = some ⟨b, off, none⟩ ∧ b < w.heap.size ∧ ∀ (i : Nat) (x : α) (c0 c1 c2 : Value), xs[i]? = some x → f x = [c0, c1, c2] → w.cell? ⟨b, off + i * 3, none⟩ = some c0 ∧ w.cell? ⟨b, off + i * 3 + 1, none⟩ = some c1 ∧ w.cell? ⟨b, off + i * 3 + 2, none⟩ = some c2 := by
  obtain ⟨b, off, e, hb, hc⟩ := h.2.2.2 hl
  refine ⟨b, off, e, hb, fun i x c0 c1 c2 hx hf => ?_⟩
  have := hc i x hx
  rw [hf] at this
  exact ⟨this 0 c0 rfl, this 1 c1 rfl, this 2 c2 rfl⟩

theorem drop_at {α : Type} {l : List α} {k : Nat} {x : α} (h : l[k]? = some x) : l.drop k = x :: l.drop (k + 1) := by
  have hk := (List.getElem?_eq_some_iff.1 h).1
  rw [List.drop_eq_getElem_cons hk]
  rw [List.getElem?_eq_getElem hk] at h
  cases h
  rfl

theorem cell_new3 {w : World} {a b c : Value} {t : TypeId} : (w.alloc (.cells #[a, b, c] t)).cell? ⟨w.heap.size, 0, none⟩ = some a ∧ (w.alloc (.cells #[a, b, c] t)).cell? ⟨w.heap.size, 1, none⟩ = some b ∧ (w.alloc (.cells #[a, b, c] t)).cell? ⟨w.heap.size, 2, none⟩ = some c := by
  have h := heap_alloc_new w (.cells #[a, b, c] t)
  refine ⟨?_, ?_, ?_⟩ <;> (rw [Go.Joins.cell_of_block h]; rfl)

section
variable {w : World} {ao : Option Addr} {len cap : Nat} {ws : List Wr}
set_option maxRecDepth 100000
set_option maxHeartbeats 2000000

theorem rightCommit_any (t : Int) (h : Seq 3 Wr.cells w ao len cap ws) :
    Calls Tryz.prog 99 #[.agg #[.int .i64 t, .slice ao len cap]] w fun e w' => e = .returned (.bool (rightC ⟨t, ws⟩)) ∧ Below w.heap.size w w' := by
  unfold rightC
  simp only []
  have hx := h.1
  have hm : (len : Int) ≤ 9223372036854775807 := by have := h.2.1; have := h.2.2.1; unfold maxLen at this; omega
  rw [hx]
  have hb : Below w.heap.size w (w.alloc (.cells #[.int .i64 t, .slice ao len cap] 27)) := (Below.refl _ _).alloc (Nat.le_refl _) _
  cases ht : isT t with
  | false =>
    go_enter Tryz.func99, Tryz.ntmps99
    go_wp2_with (first
      | (go_at_call 92; refine (time_any _ _).mono ?_; rintro e w' ⟨rfl, rfl⟩; rw [ht])
      | fail)
    go_ret
    exact ⟨ret_boolB (by simp), hb⟩
  | true =>
  by_cases hl : len ≤ 64
  case neg =>
    rw [decide_eq_false hl]
    go_enter Tryz.func99, Tryz.ntmps99
    go_wp2_with (first
      | (go_at_call 92; refine (time_any _ _).mono ?_; rintro e w' ⟨rfl, rfl⟩; rw [ht])
      | fail)
    go_ret
    exact ⟨ret_boolB (by simp), hb⟩
  rw [decide_eq_true hl]
  generalize hR : upW ⟨#[]⟩ ws = R
  have HR := ehide3 hR
  have HS := ehide3 h
  clear h hR
  go_enter Tryz.func99, Tryz.ntmps99
  go_wp2_with (first
    | (go_at_call 92; refine (time_any _ _).mono ?_; rintro e w' ⟨rfl, rfl⟩; rw [ht])
    | fail)
  go_loopw [3, 19] (fun a i wr => ∃ (k : Nat) (s : ByteArray), k ≤ len ∧ i = .int .i64 k ∧ a = .string s ∧ R = upW s (ws.drop k) ∧ Below w.heap.size w wr) (fun _ i _ => len - (intOf i).toNat)
  case atStart => exact ⟨0, _, by omega, rfl, rfl, by rw [← HR.out]; rfl, hb⟩
  case round =>
    obtain ⟨k, s, hk, rfl, rfl, he, hB⟩ := hrel
    have HE := ehide3 he
    clear he
    by_cases hkl : k < len
    · obtain ⟨x, hxk⟩ : ∃ x, ws[k]? = some x := ⟨ws[k], List.getElem?_eq_getElem (by omega)⟩
      obtain ⟨b, off, rfl, hbl, hcell⟩ := HS.out.three (by omega)
      obtain ⟨q0, q1, q2⟩ := hcell k x _ _ _ hxk rfl
      have hd := drop_at hxk
      have r0 := (hB.cell (p := ⟨b, off + k * 3, none⟩) hbl).trans q0
      have r1 := (hB.cell (p := ⟨b, off + k * 3 + 1, none⟩) hbl).trans q1
      have r2 := (hB.cell (p := ⟨b, off + k * 3 + 2, none⟩) hbl).trans q2
      have hki : (k : Int) < (len : Int) := by omega
      obtain ⟨kk, vv, gg⟩ := x
      simp only [] at r0 r1 r2
      have HE2 : R = (okW ⟨kk, vv, gg⟩ && slt s kk && upW kk (ws.drop (k + 1))) := by rw [HE.out, hd]; rfl
      have HE3 := ehide3 HE2
      have hlt := hB.size
      have hB1 : Below w.heap.size w (wr.alloc (.cells #[.string kk, .string vv, .bool gg] 37)) := hB.alloc hlt _
      clear HE HE2 hcell q0 q1 q2 hd hxk
      have hflip := slt_flip kk s
      cases hw : okW ⟨kk, vv, gg⟩ with
      | false =>
        go_wp2_with (first
          | (go_at_call 149; refine (rightWrite_any _ ⟨kk, vv, gg⟩).mono ?_; rintro e w' ⟨rfl, hb'⟩; rw [hw])
          | fail)
        go_ret
        exact ⟨ret_boolB (by rw [HE3.out, hw]; simp), hB1.trans (hb'.mono (by simp; omega))⟩
      | true =>
        cases hs : slt s kk with
        | false =>
          rw [hs] at hflip
          unfold slt at hflip
          simp only [Bool.not_false] at hflip
          go_wp2_with (first
            | (go_at_call 149
               refine (rightWrite_any _ ⟨kk, vv, gg⟩).mono ?_
               rintro e w' ⟨rfl, hb'⟩
               rw [hw]
               have c0 : w'.cell? ⟨wr.heap.size, 0, none⟩ = some (.string kk) := by rw [hb'.cell (by simp)]; exact cell_new3.1)
            | fail)
          go_ret
          exact ⟨ret_boolB (by rw [HE3.out, hw, hs]; simp), hB1.trans (hb'.mono (by simp; omega))⟩
        | true =>
          rw [hs] at hflip
          unfold slt at hflip
          simp only [Bool.not_true] at hflip
          have HE4 := ehide3 (show R = upW kk (ws.drop (k + 1)) from by
            have := HE3.out
            rw [hw, hs] at this
            simpa using this)
          go_wp2_with (first
            | (go_at_call 149
               refine (rightWrite_any _ ⟨kk, vv, gg⟩).mono ?_
               rintro e w' ⟨rfl, hb'⟩
               rw [hw]
               have c0 : w'.cell? ⟨wr.heap.size, 0, none⟩ = some (.string kk) := by rw [hb'.cell (by simp)]; exact cell_new3.1
               have hB2 := hB1.trans (hb'.mono (by simp; omega)))
            | fail)
          go_roundw
          case rel => exact ⟨k + 1, kk, by omega, by go_num, rfl, HE4.out, hB2⟩
          case measure => simp [intOf]; omega
    · have hk2 : k = len := by omega
      have hki : ¬ (k : Int) < (len : Int) := by omega
      go_wp2
      go_ret
      exact ⟨ret_boolB (by rw [HE.out, List.drop_eq_nil_of_le (by omega)]; simp [upW]), hB⟩
end
end Go.Proofs.YthfcjfhaoabdeaaGreatDoor
