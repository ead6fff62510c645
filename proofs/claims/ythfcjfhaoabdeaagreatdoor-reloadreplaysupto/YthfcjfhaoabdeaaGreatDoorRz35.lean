/-
  read, and Commit, Row, Gone, Manifest.
-/
import Derived.Test.YthfcjfhaoabdeaaGreatDoorRz34
import Derived.Laws.OwnMore
set_option linter.unusedVariables false
set_option linter.unusedSimpArgs false
namespace Go.Proofs.YthfcjfhaoabdeaaGreatDoor
open Go.RowKit Go.Maps

theorem below_of_grown {w W W' : World} {r : Nat} (h : Below w.heap.size w W) (g : W.grownBy W' (some r)) (hr : w.heap.size ≤ r) : Below w.heap.size w W' :=
  h.trans ⟨g.os, g.tape, g.output, g.size, fun k hk => g.block k (Nat.lt_of_lt_of_le hk h.size) (by simp; omega)⟩
/-- Four blocks, one behind the other. -/
theorem four (w : World) (a b c d : Obj) : (((((w.alloc a).alloc b).alloc c).alloc d).heap[w.heap.size]? = (w.alloc a).heap[w.heap.size]?) ∧ (((((w.alloc a).alloc b).alloc c).alloc d).heap[w.heap.size + 1]? = ((w.alloc a).alloc b).heap[(w.alloc a).heap.size]?) ∧ (((((w.alloc a).alloc b).alloc c).alloc d).heap[w.heap.size + 2]? = (((w.alloc a).alloc b).alloc c).heap[((w.alloc a).alloc b).heap.size]?) ∧ (((((w.alloc a).alloc b).alloc c).alloc d).heap[w.heap.size + 3]? = ((((w.alloc a).alloc b).alloc c).alloc d).heap[(((w.alloc a).alloc b).alloc c).heap.size]?) := by
  have e1 : (w.alloc a).heap.size = w.heap.size + 1 := by simp
  have e2 : ((w.alloc a).alloc b).heap.size = w.heap.size + 2 := by simp
  have e3 : (((w.alloc a).alloc b).alloc c).heap.size = w.heap.size + 3 := by simp
  refine ⟨?_, ?_, ?_, ?_⟩
  · rw [blk_alloc' _ d _ (by omega), blk_alloc' _ c _ (by omega), blk_alloc' _ b _ (by omega)]
  · rw [blk_alloc' _ d _ (by omega), blk_alloc' _ c _ (by omega), e1]
  · rw [blk_alloc' _ d _ (by omega), e2]
  · rw [e3]

theorem eflat_at {α : Type} (f : α → List Value) (hf : ∀ x, (f x).length = 3) : ∀ (l : List α) (i j : Nat) (x : α), l[i]? = some x → j < 3 → (l.flatMap f)[i * 3 + j]? = (f x)[j]?
  | [], i, j, x, h, hj => by cases h
  | y :: l, 0, j, x, h, hj => by
    cases h
    rw [List.flatMap_cons, List.getElem?_append_left (by rw [hf]; omega)]
    simp
  | y :: l, i + 1, j, x, h, hj => by
    rw [List.flatMap_cons, List.getElem?_append_right (by rw [hf]; omega), hf]
    have e : (i + 1) * 3 + j - 3 = i * 3 + j := by omega
    rw [e]
    exact eflat_at f hf l i j x (by simpa using h) hj
/-- A row of one's own, read. -/
theorem row_seq {α : Type} {f : α → List Value} {w : World} {base e : Nat} {ao : Option Addr} {len cap : Nat} {l : List α} (h : w.ownsRow base e 3 (.slice ao len cap) l.length (l.flatMap f)) (hf : ∀ x, (f x).length = 3) : Seq 3 f w ao len cap l := by
  rcases h.2 with ⟨e1, h0⟩ | ⟨g, cap', cur, e1, hg, hh, hn, hm, hs, ht⟩
  · cases e1
    exact ⟨h0, Nat.le_refl _, Nat.zero_le _, fun h => absurd h (by omega)⟩
  · cases e1
    refine ⟨rfl, hn, hm, fun hl => ⟨g, 0, rfl, (Array.getElem?_eq_some_iff.1 hh).1, fun i x hi j u hu => ?_⟩⟩
    have hil := (List.getElem?_eq_some_iff.1 hi).1
    have hj : j < 3 := by
      have := (List.getElem?_eq_some_iff.1 hu).1
      rw [hf] at this
      exact this
    rw [Nat.zero_add, h.cellAt (i * 3 + j) (by omega), eflat_at f hf l i j x hi hj]
    exact hu
theorem erow_form {w : World} {base e size n : Nat} {v : Value} {xs : List Value} (h : w.ownsRow base e size v n xs) : ∃ a l c, v = .slice a l c := by
  rcases h.2 with ⟨rfl, _⟩ | ⟨g, cap, cur, rfl, _⟩
  · exact ⟨_, _, _, rfl⟩
  · exact ⟨_, _, _, rfl⟩

section
variable {w : World} {ao : Option Addr} {len cap : Nat} {xs : List Int}
set_option maxRecDepth 100000
set_option maxHeartbeats 2000000

end
end Go.Proofs.YthfcjfhaoabdeaaGreatDoor

/-
  read, and Commit, Row, Gone, Manifest.
-/
set_option linter.unusedVariables false
set_option linter.unusedSimpArgs false
namespace Go.Proofs.YthfcjfhaoabdeaaGreatDoor
open Go.RowKit Go.Maps

section
variable {w : World} {ao : Option Addr} {len cap : Nat} {xs : List Int}
set_option maxRecDepth 100000
set_option maxHeartbeats 2000000

theorem readC_any (h : Sl w ao len cap xs) :
    Calls Tryz.prog 231 #[kindC, .slice ao len cap] w fun e w' => ∃ v, e = .returned (.tuple #[.agg #[.int .i64 (oC xs).time, v], .int .i64 (vC xs).1, .int .i64 (vC xs).2]) ∧ WRow w' w.heap.size v (oC xs).ws ∧ Below w.heap.size w w' := by
  have hx := h.1
  have hlen63 : (len : Int) ≤ 9223372036854775807 := by have := h.2.1; have := h.2.2.1; unfold maxLen at this; omega
  have eT := enter_takeC
  have eR := enter_rightC
  obtain ⟨q0, q1, q2, q3⟩ := four w (.cells #[.int .u8 67, .func (.func 99) #[] #[], .func (.func 100) #[] #[], .func (.func 103) #[] #[]] 116) (.cells #[.int .i64 0, .slice none 0 0] 27) (.cells #[.int .i64 0, .slice none 0 0] 27) (.cells #[.slice ao len cap, .int .i64 0, .bool false] 240)
  have k0 : ((((w.alloc (.cells #[.int .u8 67, .func (.func 99) #[] #[], .func (.func 100) #[] #[], .func (.func 103) #[] #[]] 116)).alloc (.cells #[.int .i64 0, .slice none 0 0] 27)).alloc (.cells #[.int .i64 0, .slice none 0 0] 27)).alloc (.cells #[.slice ao len cap, .int .i64 0, .bool false] 240)).heap[w.heap.size]? = some (.cells #[.int .u8 67, .func (.func 99) #[] #[], .func (.func 100) #[] #[], .func (.func 103) #[] #[]] 116 (0, 0)) := q0.trans (heap_alloc_new _ _)
  have k1 : ((((w.alloc (.cells #[.int .u8 67, .func (.func 99) #[] #[], .func (.func 100) #[] #[], .func (.func 103) #[] #[]] 116)).alloc (.cells #[.int .i64 0, .slice none 0 0] 27)).alloc (.cells #[.int .i64 0, .slice none 0 0] 27)).alloc (.cells #[.slice ao len cap, .int .i64 0, .bool false] 240)).heap[w.heap.size + 1]? = some (.cells #[.int .i64 0, .slice none 0 0] 27 (0, 0)) := q1.trans (heap_alloc_new _ _)
  have k2 : ((((w.alloc (.cells #[.int .u8 67, .func (.func 99) #[] #[], .func (.func 100) #[] #[], .func (.func 103) #[] #[]] 116)).alloc (.cells #[.int .i64 0, .slice none 0 0] 27)).alloc (.cells #[.int .i64 0, .slice none 0 0] 27)).alloc (.cells #[.slice ao len cap, .int .i64 0, .bool false] 240)).heap[w.heap.size + 2]? = some (.cells #[.int .i64 0, .slice none 0 0] 27 (0, 0)) := q2.trans (heap_alloc_new _ _)
  have k3 : ((((w.alloc (.cells #[.int .u8 67, .func (.func 99) #[] #[], .func (.func 100) #[] #[], .func (.func 103) #[] #[]] 116)).alloc (.cells #[.int .i64 0, .slice none 0 0] 27)).alloc (.cells #[.int .i64 0, .slice none 0 0] 27)).alloc (.cells #[.slice ao len cap, .int .i64 0, .bool false] 240)).heap[w.heap.size + 3]? = some (.cells #[.slice ao len cap, .int .i64 0, .bool false] 240 (0, 0)) := q3.trans (heap_alloc_new _ _)
  have hA : Below w.heap.size w ((((w.alloc (.cells #[.int .u8 67, .func (.func 99) #[] #[], .func (.func 100) #[] #[], .func (.func 103) #[] #[]] 116)).alloc (.cells #[.int .i64 0, .slice none 0 0] 27)).alloc (.cells #[.int .i64 0, .slice none 0 0] 27)).alloc (.cells #[.slice ao len cap, .int .i64 0, .bool false] 240)) := ((((Below.refl _ _).alloc (Nat.le_refl _) _).alloc (by simp) _).alloc (by simp; omega) _).alloc (by simp; omega) _
  have hRd : Rd ((((w.alloc (.cells #[.int .u8 67, .func (.func 99) #[] #[], .func (.func 100) #[] #[], .func (.func 103) #[] #[]] 116)).alloc (.cells #[.int .i64 0, .slice none 0 0] 27)).alloc (.cells #[.int .i64 0, .slice none 0 0] 27)).alloc (.cells #[.slice ao len cap, .int .i64 0, .bool false] 240)) (w.heap.size + 3) ao len cap xs (.at 0) := ⟨k3, h.below hA, Nat.zero_le _⟩
  have HM := mark_any 67 67 hRd (by omega) (by omega)
  obtain ⟨S, eS⟩ : ∃ S, S = sC xs 67 := ⟨_, rfl⟩
  have hS : (rmark xs 67 67 (.at 0)).2 = S := eS.symm
  rw [hS] at HM
  obtain ⟨PP, ePP⟩ : ∃ PP, PP = pC xs := ⟨_, rfl⟩
  obtain ⟨vd, evd⟩ : ∃ vd, vd = vC xs := ⟨_, rfl⟩
  have hvd : vd = verd PP.2 len (rightC PP.1) := by rw [evd, ePP, ← hx]; rfl
  obtain ⟨ox, eox⟩ : ∃ ox, ox = oC xs := ⟨_, rfl⟩
  have hox : ox = if vd.2 = 0 then PP.1 else ⟨0, []⟩ := by rw [eox, evd, ePP]; rfl
  rw [← evd, ← eox]
  have EPP := ehide3 ePP
  have ES := ehide3 eS
  have HVD := ehide3 hvd
  have HOX := ehide3 hox
  have HM2 := ehide3 HM
  have c00 : ((((w.alloc (.cells #[.int .u8 67, .func (.func 99) #[] #[], .func (.func 100) #[] #[], .func (.func 103) #[] #[]] 116)).alloc (.cells #[.int .i64 0, .slice none 0 0] 27)).alloc (.cells #[.int .i64 0, .slice none 0 0] 27)).alloc (.cells #[.slice ao len cap, .int .i64 0, .bool false] 240)).cell? ⟨w.heap.size, 0, none⟩ = some (.int .u8 67) := by rw [Go.Joins.cell_of_block k0]; rfl
  clear HM hS eS evd eox hvd hox ePP q0 q1 q2 q3 hRd h
  unfold kindC
  go_enter Tryz.func231, Tryz.ntmps231
  go_wp2_with fail
  refine HM2.out.mono ?_
  rintro e w1 ⟨rfl, h1, g1⟩
  have y0 := res3 k0 g1 (by omega)
  have y1 := res3 k1 g1 (by omega)
  have y2 := res3 k2 g1 (by omega)
  have hB1 := below_of_grown hA g1 (by omega)
  have hw1 := h1.lt
  have d3 : w1.cell? ⟨w.heap.size, 3, none⟩ = some (.func (.func 103) #[] #[]) := by rw [Go.Joins.cell_of_block y0]; rfl
  have HT : Calls Tryz.prog 103 #[.pointer (some ⟨w.heap.size + 3, 0, none⟩)] w1 fun e w' => ∃ v, e = .returned (.agg #[.int .i64 PP.1.time, v]) ∧ WRow w' w1.heap.size v PP.1.ws ∧ Rd w' (w.heap.size + 3) ao len cap xs PP.2 ∧ w1.grownBy w' (some (w.heap.size + 3)) := by
    rw [EPP.out]
    have := takeCommit_any h1
    rw [ES.out] at this
    exact this
  have HT2 := ehide3 HT
  clear HT HM2 k0 k1 k2 k3 g1 c00 h1 hA
  go_wp2_with fail
  refine HT2.out.mono ?_
  rintro e w2 ⟨vv, rfl, ho2, h2, g2⟩
  obtain ⟨av, lv, cv, rfl⟩ : ∃ a l c, vv = .slice a l c := by
    rcases ho2.2 with ⟨rfl, _⟩ | ⟨g, cap, cur, rfl, _⟩
    · exact ⟨_, _, _, rfl⟩
    · exact ⟨_, _, _, rfl⟩
  have u0 := res3 y0 g2 (by omega)
  have u1 := res3 y1 g2 (by omega)
  have u2 := res3 y2 g2 (by omega)
  have hB2 := below_of_grown hB1 g2 (by omega)
  obtain ⟨X, s3⟩ := PP
  simp only [] at h2 HVD HOX ho2 ⊢
  clear HT2 y0 y1 y2 hB1 g2 d3 EPP ES
  have hsz3 : w.heap.size + 3 < w2.heap.size := h2.lt
  have hal : Below w2.heap.size w2 (w2.alloc (.cells #[.int .i64 X.time, .slice av lv cv] 27)) := (Below.refl _ _).alloc (Nat.le_refl _) _
  have u0' := (blk_alloc' w2 (.cells #[.int .i64 X.time, .slice av lv cv] 27) w.heap.size (by omega)).trans u0
  have u1' := (blk_alloc' w2 (.cells #[.int .i64 X.time, .slice av lv cv] 27) (w.heap.size + 1) (by omega)).trans u1
  have u2' := (blk_alloc' w2 (.cells #[.int .i64 X.time, .slice av lv cv] 27) (w.heap.size + 2) (by omega)).trans u2
  have xb := heap_alloc_new w2 (.cells #[.int .i64 X.time, .slice av lv cv] 27)
  have h3 := h2.keep hal
  have hB3 : Below w.heap.size w (w2.alloc (.cells #[.int .i64 X.time, .slice av lv cv] 27)) := hB2.trans (hal.mono (by omega))
  obtain ⟨r0, r1, r2⟩ : (w2.alloc (.cells #[.int .i64 X.time, .slice av lv cv] 27)).cell? ⟨w.heap.size + 1 + 1 + 1, 0, none⟩ = some (.slice ao len cap) ∧ (w2.alloc (.cells #[.int .i64 X.time, .slice av lv cv] 27)).cell? ⟨w.heap.size + 1 + 1 + 1, 1, none⟩ = some (.int .i64 (s3.pos : Int)) ∧ (w2.alloc (.cells #[.int .i64 X.time, .slice av lv cv] 27)).cell? ⟨w.heap.size + 1 + 1 + 1, 2, none⟩ = some (.bool s3.isBad) := h3.cells
  have ho3 := row_below ho2 hal
  have hs1 := hB2.size
  have n0 : (w2.alloc (.cells #[.int .i64 X.time, .slice av lv cv] 27)).cell? ⟨w.heap.size + 1 + 1, 0, none⟩ = some (.int .i64 0) := (Go.Joins.cell_of_block u2' 0).trans rfl
  have t0 : (w2.alloc (.cells #[.int .i64 X.time, .slice av lv cv] 27)).cell? ⟨w.heap.size + 1, 0, none⟩ = some (.int .i64 0) := by rw [Go.Joins.cell_of_block u1']; rfl
  have tf0 := Go.Joins.unfrozen_of_block u1' 0
  have n1 : (w2.alloc (.cells #[.int .i64 X.time, .slice av lv cv] 27)).cell? ⟨w.heap.size + 1 + 1, 1, none⟩ = some (.slice none 0 0) := (Go.Joins.cell_of_block u2' 1).trans rfl
  have t1 : (w2.alloc (.cells #[.int .i64 X.time, .slice av lv cv] 27)).cell? ⟨w.heap.size + 1, 1, none⟩ = some (.slice none 0 0) := by rw [Go.Joins.cell_of_block u1']; rfl
  have tf1 := Go.Joins.unfrozen_of_block u1' 1
  cases s3 with
  | bad p =>
    simp only [Rs.pos, Rs.isBad] at r1 r2
    have ev : vd = ((p : Int), 61) := HVD.out
    subst ev
    have eo : ox = ⟨0, []⟩ := HOX.out.trans (if_neg (by show ¬ (61 : Int) = 0; decide))
    subst eo
    go_wp2
    go_region
    have zW : (((w2.alloc (.cells #[.int .i64 X.time, .slice av lv cv] 27)).setCell ⟨w.heap.size + 1, 0, none⟩ (.int .i64 0)).setCell ⟨w.heap.size + 1, 1, none⟩ (.slice none 0 0)).drew.heap[w.heap.size + 1]? = some (.cells #[.int .i64 0, .slice none 0 0] 27 (0, 0)) := blk_set2 u1' _ _
    have BW : Below w.heap.size w (((w2.alloc (.cells #[.int .i64 X.time, .slice av lv cv] 27)).setCell ⟨w.heap.size + 1, 0, none⟩ (.int .i64 0)).setCell ⟨w.heap.size + 1, 1, none⟩ (.slice none 0 0)).drew := (below_drewN ((hB3.setCell (p := ⟨w.heap.size + 1, 0, none⟩) (by simp) _).setCell (p := ⟨w.heap.size + 1, 1, none⟩) (by simp) _) 1)
    have HO : WRow (((w2.alloc (.cells #[.int .i64 X.time, .slice av lv cv] 27)).setCell ⟨w.heap.size + 1, 0, none⟩ (.int .i64 0)).setCell ⟨w.heap.size + 1, 1, none⟩ (.slice none 0 0)).drew w.heap.size (.slice none 0 0) ([]) := World.ownsRow_nil _ _ _ _
    go_wp2
    generalize (((w2.alloc (.cells #[.int .i64 X.time, .slice av lv cv] 27)).setCell ⟨w.heap.size + 1, 0, none⟩ (.int .i64 0)).setCell ⟨w.heap.size + 1, 1, none⟩ (.slice none 0 0)).drew = W at zW BW HO ⊢
    have yy0 : W.cell? ⟨w.heap.size + 1, 0, none⟩ = some (.int .i64 0) := (by rw [Go.Joins.cell_of_block zW]; rfl)
    have yy1 : W.cell? ⟨w.heap.size + 1, 1, none⟩ = some (.slice none 0 0) := (by rw [Go.Joins.cell_of_block zW]; rfl)
    refine bodyPost_ret (v := .tuple #[.agg #[.int .i64 0, .slice none 0 0], .int .i64 (p : Int), .int .i64 61]) (by simp [results, Tryz.results231, go_sem, yy0, yy1]) rfl ⟨_, rfl, HO, BW⟩
  | «at» m =>
    simp only [Rs.pos, Rs.isBad] at r1 r2
    by_cases hml : m < len
    · have hmi : (m : Int) < (len : Int) := by omega
      have ev : vd = ((m : Int), 61) := HVD.out.trans (if_pos hml)
      subst ev
      have eo : ox = ⟨0, []⟩ := HOX.out.trans (if_neg (by show ¬ (61 : Int) = 0; decide))
      subst eo
      go_wp2
      go_region
      have zW : (((w2.alloc (.cells #[.int .i64 X.time, .slice av lv cv] 27)).setCell ⟨w.heap.size + 1, 0, none⟩ (.int .i64 0)).setCell ⟨w.heap.size + 1, 1, none⟩ (.slice none 0 0)).drew.heap[w.heap.size + 1]? = some (.cells #[.int .i64 0, .slice none 0 0] 27 (0, 0)) := blk_set2 u1' _ _
      have BW : Below w.heap.size w (((w2.alloc (.cells #[.int .i64 X.time, .slice av lv cv] 27)).setCell ⟨w.heap.size + 1, 0, none⟩ (.int .i64 0)).setCell ⟨w.heap.size + 1, 1, none⟩ (.slice none 0 0)).drew := (below_drewN ((hB3.setCell (p := ⟨w.heap.size + 1, 0, none⟩) (by simp) _).setCell (p := ⟨w.heap.size + 1, 1, none⟩) (by simp) _) 1)
      have HO : WRow (((w2.alloc (.cells #[.int .i64 X.time, .slice av lv cv] 27)).setCell ⟨w.heap.size + 1, 0, none⟩ (.int .i64 0)).setCell ⟨w.heap.size + 1, 1, none⟩ (.slice none 0 0)).drew w.heap.size (.slice none 0 0) ([]) := World.ownsRow_nil _ _ _ _
      go_wp2
      generalize (((w2.alloc (.cells #[.int .i64 X.time, .slice av lv cv] 27)).setCell ⟨w.heap.size + 1, 0, none⟩ (.int .i64 0)).setCell ⟨w.heap.size + 1, 1, none⟩ (.slice none 0 0)).drew = W at zW BW HO ⊢
      have yy0 : W.cell? ⟨w.heap.size + 1, 0, none⟩ = some (.int .i64 0) := (by rw [Go.Joins.cell_of_block zW]; rfl)
      have yy1 : W.cell? ⟨w.heap.size + 1, 1, none⟩ = some (.slice none 0 0) := (by rw [Go.Joins.cell_of_block zW]; rfl)
      refine bodyPost_ret (v := .tuple #[.agg #[.int .i64 0, .slice none 0 0], .int .i64 (m : Int), .int .i64 61]) (by simp [results, Tryz.results231, go_sem, yy0, yy1]) rfl ⟨_, rfl, HO, BW⟩
    have hmi : ¬ (m : Int) < (len : Int) := by omega
    have hv2 : vd = if rightC X = true then (0, 0) else (0, 60) := HVD.out.trans (if_neg hml)
    have HV2 := ehide3 hv2
    have hseq : Seq 3 Wr.cells (w2.alloc (.cells #[.int .i64 X.time, .slice av lv cv] 27)) av lv cv X.ws := row_seq ho3 (fun _ => rfl)
    have HR := rightCommit_any X.time hseq
    have d1 : (w2.alloc (.cells #[.int .i64 X.time, .slice av lv cv] 27)).cell? ⟨w.heap.size, 1, none⟩ = some (.func (.func 99) #[] #[]) := by rw [Go.Joins.cell_of_block u0']; rfl
    have x0 : (w2.alloc (.cells #[.int .i64 X.time, .slice av lv cv] 27)).cell? ⟨w2.heap.size, 0, none⟩ = some (.int .i64 X.time) := by rw [Go.Joins.cell_of_block xb]; rfl
    have x1 : (w2.alloc (.cells #[.int .i64 X.time, .slice av lv cv] 27)).cell? ⟨w2.heap.size, 1, none⟩ = some (.slice av lv cv) := by rw [Go.Joins.cell_of_block xb]; rfl
    have HR2 := ehide3 HR
    have hzz : (w2.alloc (.cells #[.int .i64 X.time, .slice av lv cv] 27)).heap.size = w2.heap.size + 1 := by simp
    clear HR hv2 hseq
    cases hr : rightC X with
    | false =>
      have ev : vd = (0, 60) := HV2.out.trans (by rw [hr]; rfl)
      subst ev
      have eo : ox = ⟨0, []⟩ := HOX.out.trans (if_neg (by show ¬ (60 : Int) = 0; decide))
      subst eo
      go_wp2_with fail
      refine HR2.out.mono ?_
      rintro e w4 ⟨rfl, hb4⟩
      rw [hr]
      have hB4 : Below w.heap.size w w4 := hB3.trans (hb4.mono (by omega))
      have v1 := (hb4.block (w.heap.size + 1) (by omega)).trans u1'
      have v2 := (hb4.block (w.heap.size + 2) (by omega)).trans u2'
      clear HR2
      have m0 : w4.cell? ⟨w.heap.size + 1 + 1, 0, none⟩ = some (.int .i64 0) := (Go.Joins.cell_of_block v2 0).trans rfl
      have l0 : w4.cell? ⟨w.heap.size + 1, 0, none⟩ = some (.int .i64 0) := (Go.Joins.cell_of_block v1 0).trans rfl
      have lf0 := Go.Joins.unfrozen_of_block v1 0
      have m1 : w4.cell? ⟨w.heap.size + 1 + 1, 1, none⟩ = some (.slice none 0 0) := (Go.Joins.cell_of_block v2 1).trans rfl
      have l1 : w4.cell? ⟨w.heap.size + 1, 1, none⟩ = some (.slice none 0 0) := (Go.Joins.cell_of_block v1 1).trans rfl
      have lf1 := Go.Joins.unfrozen_of_block v1 1
      have zW : ((w4.setCell ⟨w.heap.size + 1, 0, none⟩ (.int .i64 0)).setCell ⟨w.heap.size + 1, 1, none⟩ (.slice none 0 0)).heap[w.heap.size + 1]? = some (.cells #[.int .i64 0, .slice none 0 0] 27 (0, 0)) := blk_set2 v1 _ _
      have BW : Below w.heap.size w ((w4.setCell ⟨w.heap.size + 1, 0, none⟩ (.int .i64 0)).setCell ⟨w.heap.size + 1, 1, none⟩ (.slice none 0 0)) := ((hB4.setCell (p := ⟨w.heap.size + 1, 0, none⟩) (by simp) _).setCell (p := ⟨w.heap.size + 1, 1, none⟩) (by simp) _)
      have HO : WRow ((w4.setCell ⟨w.heap.size + 1, 0, none⟩ (.int .i64 0)).setCell ⟨w.heap.size + 1, 1, none⟩ (.slice none 0 0)) w.heap.size (.slice none 0 0) ([]) := World.ownsRow_nil _ _ _ _
      go_wp2
      generalize ((w4.setCell ⟨w.heap.size + 1, 0, none⟩ (.int .i64 0)).setCell ⟨w.heap.size + 1, 1, none⟩ (.slice none 0 0)) = W at zW BW HO ⊢
      have yy0 : W.cell? ⟨w.heap.size + 1, 0, none⟩ = some (.int .i64 0) := (by rw [Go.Joins.cell_of_block zW]; rfl)
      have yy1 : W.cell? ⟨w.heap.size + 1, 1, none⟩ = some (.slice none 0 0) := (by rw [Go.Joins.cell_of_block zW]; rfl)
      refine bodyPost_ret (v := .tuple #[.agg #[.int .i64 0, .slice none 0 0], .int .i64 0, .int .i64 60]) (by simp [results, Tryz.results231, go_sem, yy0, yy1]) rfl ⟨_, rfl, HO, BW⟩
    | true =>
      have ev : vd = (0, 0) := HV2.out.trans (by rw [hr]; rfl)
      subst ev
      have eo : ox = X := HOX.out.trans (if_pos rfl)
      subst eo
      go_wp2_with fail
      refine HR2.out.mono ?_
      rintro e w4 ⟨rfl, hb4⟩
      rw [hr]
      have hB4 : Below w.heap.size w w4 := hB3.trans (hb4.mono (by omega))
      have v1 := (hb4.block (w.heap.size + 1) (by omega)).trans u1'
      have v3 := (hb4.block w2.heap.size (by omega)).trans xb
      clear HR2
      have ho4 := row_below ho3 hb4
      have m0 : w4.cell? ⟨w2.heap.size, 0, none⟩ = some (.int .i64 ox.time) := (Go.Joins.cell_of_block v3 0).trans rfl
      have l0 : w4.cell? ⟨w.heap.size + 1, 0, none⟩ = some (.int .i64 0) := (Go.Joins.cell_of_block v1 0).trans rfl
      have lf0 := Go.Joins.unfrozen_of_block v1 0
      have m1 : w4.cell? ⟨w2.heap.size, 1, none⟩ = some (.slice av lv cv) := (Go.Joins.cell_of_block v3 1).trans rfl
      have l1 : w4.cell? ⟨w.heap.size + 1, 1, none⟩ = some (.slice none 0 0) := (Go.Joins.cell_of_block v1 1).trans rfl
      have lf1 := Go.Joins.unfrozen_of_block v1 1
      have zW : ((w4.setCell ⟨w.heap.size + 1, 0, none⟩ (.int .i64 ox.time)).setCell ⟨w.heap.size + 1, 1, none⟩ (.slice av lv cv)).heap[w.heap.size + 1]? = some (.cells #[.int .i64 ox.time, .slice av lv cv] 27 (0, 0)) := blk_set2 v1 _ _
      have BW : Below w.heap.size w ((w4.setCell ⟨w.heap.size + 1, 0, none⟩ (.int .i64 ox.time)).setCell ⟨w.heap.size + 1, 1, none⟩ (.slice av lv cv)) := ((hB4.setCell (p := ⟨w.heap.size + 1, 0, none⟩) (by simp) _).setCell (p := ⟨w.heap.size + 1, 1, none⟩) (by simp) _)
      have HO : WRow ((w4.setCell ⟨w.heap.size + 1, 0, none⟩ (.int .i64 ox.time)).setCell ⟨w.heap.size + 1, 1, none⟩ (.slice av lv cv)) w.heap.size (.slice av lv cv) (ox.ws) := row_low (World.ownsRow.kept ho4 (set2 _ _ _ _) (.inr (fun e => by have := (World.ownsRow.lt ho2 _ e).1; omega))) (base' := w.heap.size) (by omega)
      go_wp2
      generalize ((w4.setCell ⟨w.heap.size + 1, 0, none⟩ (.int .i64 ox.time)).setCell ⟨w.heap.size + 1, 1, none⟩ (.slice av lv cv)) = W at zW BW HO ⊢
      have yy0 : W.cell? ⟨w.heap.size + 1, 0, none⟩ = some (.int .i64 ox.time) := (by rw [Go.Joins.cell_of_block zW]; rfl)
      have yy1 : W.cell? ⟨w.heap.size + 1, 1, none⟩ = some (.slice av lv cv) := (by rw [Go.Joins.cell_of_block zW]; rfl)
      refine bodyPost_ret (v := .tuple #[.agg #[.int .i64 ox.time, .slice av lv cv], .int .i64 0, .int .i64 0]) (by simp [results, Tryz.results231, go_sem, yy0, yy1]) rfl ⟨_, rfl, HO, BW⟩

theorem PCommit_any (h : Sl w ao len cap xs) :
    Calls Tryz.prog 176 #[.slice ao len cap] w fun e w' => ∃ v, e = .returned (.tuple #[.agg #[.int .i64 (oC xs).time, v], .int .i64 (vC xs).1, .int .i64 (vC xs).2]) ∧ WRow w' w.heap.size v (oC xs).ws ∧ Below w.heap.size w w' := by
  have hA : Below w.heap.size w (w.alloc (.cells #[.int .i64 0, .slice none 0 0] 27)) := (Below.refl _ _).alloc (Nat.le_refl _) _
  have k0 := heap_alloc_new w (.cells #[.int .i64 0, .slice none 0 0] 27)
  have hz : (w.alloc (.cells #[.int .i64 0, .slice none 0 0] 27)).heap.size = w.heap.size + 1 := by simp
  have HR : ∀ u : World, Below w.heap.size w u → Calls Tryz.prog 231 #[kindC, .slice ao len cap] u _ := fun u hu => readC_any (h.below hu)
  clear h
  go_enter Tryz.func176, Tryz.ntmps176
  go_wp2_with fail
  refine kindC_any.mono ?_
  rintro e w2 ⟨rfl, hb2⟩
  have hB2 : Below w.heap.size w w2 := hA.trans (hb2.mono (by omega))
  have k2 := (hb2.block w.heap.size (by omega)).trans k0
  have HR2 := ehide3 (HR w2 hB2)
  have hs2 : w.heap.size < w2.heap.size := (Array.getElem?_eq_some_iff.1 k2).1
  clear HR
  go_wp2_with fail
  refine HR2.out.mono ?_
  rintro e w3 ⟨vv, rfl, ho3, hb3⟩
  obtain ⟨av, lv, cv, rfl⟩ := erow_form ho3
  have hB3 : Below w.heap.size w w3 := hB2.trans (hb3.mono (by omega))
  have k3 := (hb3.block w.heap.size hs2).trans k2
  have m0 : w3.cell? ⟨w.heap.size, 0, none⟩ = some (.int .i64 0) := (Go.Joins.cell_of_block k3 0).trans rfl
  have mf0 := Go.Joins.unfrozen_of_block k3 0
  have m1 : w3.cell? ⟨w.heap.size, 1, none⟩ = some (.slice none 0 0) := (Go.Joins.cell_of_block k3 1).trans rfl
  have mf1 := Go.Joins.unfrozen_of_block k3 1
  have zW : ((w3.setCell ⟨w.heap.size, 0, none⟩ (.int .i64 (oC xs).time)).setCell ⟨w.heap.size, 1, none⟩ (.slice av lv cv)).heap[w.heap.size]? = some (.cells #[.int .i64 (oC xs).time, .slice av lv cv] 27 (0, 0)) := blk_set2 k3 _ _
  have BW : Below w.heap.size w ((w3.setCell ⟨w.heap.size, 0, none⟩ (.int .i64 (oC xs).time)).setCell ⟨w.heap.size, 1, none⟩ (.slice av lv cv)) := ((hB3.setCell (p := ⟨w.heap.size, 0, none⟩) (by simp) _).setCell (p := ⟨w.heap.size, 1, none⟩) (by simp) _)
  have HO : WRow ((w3.setCell ⟨w.heap.size, 0, none⟩ (.int .i64 (oC xs).time)).setCell ⟨w.heap.size, 1, none⟩ (.slice av lv cv)) w.heap.size (.slice av lv cv) (oC xs).ws := row_low (World.ownsRow.kept ho3 (set2 _ _ _ _) (.inr (fun e => by have := (World.ownsRow.lt ho3 _ e).1; omega))) (base' := w.heap.size) (by omega)
  clear HR2
  go_wp2
  generalize ((w3.setCell ⟨w.heap.size, 0, none⟩ (.int .i64 (oC xs).time)).setCell ⟨w.heap.size, 1, none⟩ (.slice av lv cv)) = W at zW BW HO ⊢
  have yy0 : W.cell? ⟨w.heap.size, 0, none⟩ = some (.int .i64 (oC xs).time) := (by rw [Go.Joins.cell_of_block zW]; rfl)
  have yy1 : W.cell? ⟨w.heap.size, 1, none⟩ = some (.slice av lv cv) := (by rw [Go.Joins.cell_of_block zW]; rfl)
  refine bodyPost_ret (v := .tuple #[.agg #[.int .i64 (oC xs).time, .slice av lv cv], .int .i64 (vC xs).1, .int .i64 (vC xs).2]) (by simp [results, Tryz.results176, go_sem, yy0, yy1]) rfl ⟨_, rfl, HO, BW⟩
end
end Go.Proofs.YthfcjfhaoabdeaaGreatDoor
