/-
  The law's begun, height.
-/
import Derived.Test.YtopihgdbfhiejaaDoorSj2
set_option linter.unusedVariables false
set_option linter.unusedSimpArgs false
namespace Go.Proofs.YtopihgdbfhiejaaDoor
open Go.RowKit Go.Maps Go.Sort

/-- An operation as it is begun. -/
def opA (a : AskR) : Opm :=
  if pk a.kind 3 = 0 then { (if good a.key = true then opS 2 a.key else opN 2) with r := a.ref, h := hgt a.h }
  else if pk a.kind 3 = 1 then (if good a.key = true then opS 0 a.key else opN 0) else opS 1 a.key
section
variable {w : World} {K : Nat → Prop} {lb d z M : Nat} {s : Sl}
theorem LT.begin2 (hl : LT w K lb d z M s) (kind : Nat) (hk1 : kind ≠ 1) (k : ByteArray) (hk : k.size ≤ maxLen) :
    Calls Tryd.prog 37 #[.pointer (some ⟨lb, 0, none⟩), .int .i64 (kind : Int), .string k] w fun e w' => e = .returned (.pointer (some ⟨w.heap.size, 0, none⟩)) ∧ Om w' w.heap.size (lpp lb) nilv (if good k = true then opS kind k else opN kind) ∧ Below w.heap.size w w' := by
  obtain ⟨g, gt, tc, sv, T, N, m, F, hL, hok, _⟩ := hl
  by_cases hg : good k = true
  · rw [if_pos hg]; exact begin_good hL hok.n1 kind k hk hk1 hg
  · rw [if_neg hg]; exact begin_bad hL hok.n1 kind hk1 k hk (by simpa using hg)
set_option maxRecDepth 100000 in
set_option maxHeartbeats 4000000 in
theorem LT.begun (h : LT w K lb d z M s) (a : AskR) (ha : a.ok) :
    Calls Tryd.prog 13 #[.pointer (some ⟨lb, 0, none⟩), a.val] w fun e w' => e = .returned (.pointer (some ⟨w.heap.size + 1, 0, none⟩)) ∧ Om w' (w.heap.size + 1) (lpp lb) nilv (opA a) ∧ Below w.heap.size w w' := by
  obtain ⟨w1, hw1⟩ : ∃ x, x = w.alloc (.cells #[.int .i64 a.w, .int .i64 a.kind, .string a.key, .int .i64 a.ref, .int .i64 a.h] 33) := ⟨_, rfl⟩
  have hb1 : Below w.heap.size w w1 := by rw [hw1]; exact (Below.refl _ _).alloc (Nat.le_refl _) _
  have hs1 : w1.heap.size = w.heap.size + 1 := by rw [hw1]; simp
  have hn1 : w1.heap[w.heap.size]? = some (.cells #[.int .i64 a.w, .int .i64 a.kind, .string a.key, .int .i64 a.ref, .int .i64 a.h] 33 (0, 0)) := by rw [hw1]; exact heap_alloc_new w _
  have m1 : w1.cell? ⟨w.heap.size, 1, none⟩ = some (.int .i64 a.kind) := by rw [Go.Joins.cell_of_block hn1]; rfl
  have m2 : w1.cell? ⟨w.heap.size, 2, none⟩ = some (.string a.key) := by rw [Go.Joins.cell_of_block hn1]; rfl
  have m3 : w1.cell? ⟨w.heap.size, 3, none⟩ = some (.int .i64 a.ref) := by rw [Go.Joins.cell_of_block hn1]; rfl
  have m4 : w1.cell? ⟨w.heap.size, 4, none⟩ = some (.int .i64 a.h) := by rw [Go.Joins.cell_of_block hn1]; rfl
  have h1 := h.below hb1
  have hi := insert_raw (lp := lpp lb) (ref := a.ref) (height := a.h) (h1.begin2 2 (by decide) a.key ha.2.2.1)
  have hlk := lookup_raw (lp := lpp lb) (.inr ⟨lb, rfl⟩) (h1.begin2 0 (by decide) a.key ha.2.2.1)
  have hx := h1.next a.key ha.2.2.1
  rw [hs1] at hi hlk hx
  have hoA : opA a = if pk a.kind 3 = 0 then { (if good a.key = true then opS 2 a.key else opN 2) with r := a.ref, h := hgt a.h } else if pk a.kind 3 = 1 then (if good a.key = true then opS 0 a.key else opN 0) else opS 1 a.key := rfl
  rw [hoA]
  clear hoA
  generalize ({ (if good a.key = true then opS 2 a.key else opN 2) with r := a.ref, h := hgt a.h } : Opm) = o2 at hi ⊢
  generalize (if good a.key = true then opS 0 a.key else opN 0 : Opm) = o0 at hlk ⊢
  have HI := hide2 hi
  have HL := hide2 hlk
  have HX := hide2 hx
  have HB1 := hide2 hb1
  have HF : Hid (∀ w' : World, Below (w.heap.size + 1) w1 w' → Below w.heap.size w w') := hide2 (fun w' hb => HB1.out.trans ⟨hb.os, hb.tape, hb.output, hb.size, fun j hj => hb.block j (by omega)⟩)
  have hpk := pk_lt a.kind (n := 3) (by decide)
  have hpa := pick_any a.kind ha.2.1 3 (by decide) (by decide) w1
  generalize pk a.kind 3 = P at hpk hpa ⊢
  have HP := hide2 hpa
  clear h h1 hi hlk hx hb1 hn1 hs1 hpa
  unfold AskR.val
  rcases (show P = 0 ∨ P = 1 ∨ P = 2 by omega) with rfl | rfl | rfl
  · rw [if_pos rfl]
    go_enter Tryd.func13, Tryd.ntmps13
    go_wp2_with fail
    try rw [← hw1]
    refine HP.out.mono ?_
    rintro e w0 ⟨rfl, q0⟩
    subst q0
    clear hw1
    go_wp2_with fail
    refine HI.out.mono ?_
    rintro e w2 ⟨rfl, ho, hb⟩
    go_wp2
    go_ret
    exact ⟨rfl, ho, HF.out _ hb⟩
  · rw [if_neg (by decide), if_pos rfl]
    go_enter Tryd.func13, Tryd.ntmps13
    go_wp2_with fail
    try rw [← hw1]
    refine HP.out.mono ?_
    rintro e w0 ⟨rfl, q0⟩
    subst q0
    clear hw1
    go_wp2_with fail
    refine HL.out.mono ?_
    rintro e w2 ⟨rfl, ho, hb⟩
    go_wp2
    go_ret
    exact ⟨rfl, ho, HF.out _ hb⟩
  · rw [if_neg (by decide), if_neg (by decide)]
    go_enter Tryd.func13, Tryd.ntmps13
    go_wp2_with fail
    try rw [← hw1]
    refine HP.out.mono ?_
    rintro e w0 ⟨rfl, q0⟩
    subst q0
    clear hw1
    go_wp2_with fail
    refine HX.out.mono ?_
    rintro e w2 ⟨rfl, ho, hb⟩
    go_wp2
    go_ret
    exact ⟨rfl, ho, HF.out _ hb⟩
set_option maxHeartbeats 1000000 in
theorem height_any (a : AskR) (w : World) : Calls Tryd.prog 19 #[a.val] w fun e w' => e = .returned (.int .i64 ((hgt a.h : Nat) : Int)) ∧ Below w.heap.size w w' := by
  obtain ⟨w1, hw1⟩ : ∃ x, x = w.alloc (.cells #[.int .i64 a.w, .int .i64 a.kind, .string a.key, .int .i64 a.ref, .int .i64 a.h] 33) := ⟨_, rfl⟩
  have hb1 : Below w.heap.size w w1 := by rw [hw1]; exact (Below.refl _ _).alloc (Nat.le_refl _) _
  have hn1 : w1.heap[w.heap.size]? = some (.cells #[.int .i64 a.w, .int .i64 a.kind, .string a.key, .int .i64 a.ref, .int .i64 a.h] 33 (0, 0)) := by rw [hw1]; exact heap_alloc_new w _
  have m4 : w1.cell? ⟨w.heap.size, 4, none⟩ = some (.int .i64 a.h) := by rw [Go.Joins.cell_of_block hn1]; rfl
  have HB := hide2 hb1
  rw [hgt_int]
  clear hb1 hn1
  unfold AskR.val
  subst hw1
  go_enter Tryd.func19, Tryd.ntmps19
  go_wp2
  go_ret
  exact ⟨rfl, HB.out⟩
end
end Go.Proofs.YtopihgdbfhiejaaDoor
