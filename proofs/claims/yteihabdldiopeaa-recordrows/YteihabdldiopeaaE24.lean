/-
  RecordTexts, RecordRows.
-/
import Derived.Test.YteihabdldiopeaaE22
import Derived.Test.YteihabdldiopeaaE11
set_option linter.unusedVariables false
set_option linter.unusedSimpArgs false
namespace Go.Proofs.Yteihabdldiopeaa
open Go.RowKit Go.Maps

theorem bt_byt (b : Bool) (l : List Int) (h : b = true → Byt l) : Byt (bt b l) := by
  cases b with
  | true => exact h rfl
  | false => exact Byt.nil
theorem rb_byt {r : Rw} (h : rightR r = true) : Byt (rb r) := by
  simp only [rightR, isT, Bool.and_eq_true, decide_eq_true_eq] at h
  exact Byt.cons (by omega) ((tx_byt _).append ((tx_byt _).append (enc_byt _ h.2.1)))
theorem gb_byt {g : Gn} (h : rightG g = true) : Byt (gb g) := by
  simp only [rightG, isT, Bool.and_eq_true, decide_eq_true_eq] at h
  exact Byt.cons (by omega) ((tx_byt _).append (enc_byt _ h.2.1))

section
variable (w : World)
set_option maxRecDepth 100000
set_option maxHeartbeats 1500000

theorem texts_walk (s : ByteArray) : Calls Try.prog 3 #[.string s] w fun e w' => e = .returned (.bool true) ∧ Below w.heap.size w w' := by
  go_enter Try.func3, Try.ntmps3
  go_wp2_with (first
    | (go_at_call 9; refine (shown_any).mono ?_; rintro e w1 ⟨rfl, hb1⟩)
    | (go_at_call 10; refine (key_any _ _).mono ?_; rintro e w' ⟨rfl, rfl⟩)
    | (go_at_call 11; refine (refKey_any _ _).mono ?_; rintro e w' ⟨rfl, rfl⟩)
    | (go_at_call 12; refine (val_any _ _).mono ?_; rintro e w' ⟨rfl, rfl⟩)
    | (go_at_call 13; refine (refVal_any _ _).mono ?_; rintro e w' ⟨rfl, rfl⟩)
    | fail)
  go_ret
  exact ⟨rfl, hb1⟩

theorem rows_walk (r : Rw) : Calls Try.prog 5 #[r.v] w fun e w' => e = .returned (.bool true) ∧ Below w.heap.size w w' := by
  have hA : Below w.heap.size w (w.alloc (.cells #[.string r.key, .string r.val, .int .i64 r.time] 36)) := (Below.refl _ _).alloc (Nat.le_refl _) _
  have k0 := heap_alloc_new w (.cells #[.string r.key, .string r.val, .int .i64 r.time] 36)
  have eV : ∀ x : Rw, (Value.agg #[.string x.key, .string x.val, .int .i64 x.time]) = x.v := fun _ => rfl
  have hbr := bt_byt (rightR r) (rb r) rb_byt
  have hbg := bt_byt (rightG ⟨r.key, r.time⟩) (gb ⟨r.key, r.time⟩) gb_byt
  have H1 := fun u : World => @PutRow_any u r
  have H2 := fun u : World => @RPutRow_any u r
  have H3 := fun u : World => @PutGone_any u ⟨r.key, r.time⟩
  have H4 := fun u : World => @RPutGone_any u ⟨r.key, r.time⟩
  generalize bt (rightR r) (rb r) = L1 at *
  generalize er (rightR r) = E1 at *
  generalize bt (rightG ⟨r.key, r.time⟩) (gb ⟨r.key, r.time⟩) = L2 at *
  generalize er (rightG ⟨r.key, r.time⟩) = E2 at *
  obtain ⟨kk, vv, tt⟩ := r
  unfold Rw.v at *
  unfold Gn.v at *
  simp only [] at *
  clear eV
  go_enter Try.func5, Try.ntmps5
  go_wp2_with fail
  refine (shown_any).mono ?_
  rintro e w1 ⟨rfl, hb1⟩
  have B1 := below_on hA hb1
  have k1 := (hb1.block w.heap.size (by simp)).trans k0
  have c10 : w1.cell? ⟨w.heap.size, 0, none⟩ = some (.string kk) := by rw [Go.Joins.cell_of_block k1]; rfl
  have c11 : w1.cell? ⟨w.heap.size, 1, none⟩ = some (.string vv) := by rw [Go.Joins.cell_of_block k1]; rfl
  have c12 : w1.cell? ⟨w.heap.size, 2, none⟩ = some (.int .i64 tt) := by rw [Go.Joins.cell_of_block k1]; rfl
  have l1 : w.heap.size < w1.heap.size := (Array.getElem?_eq_some_iff.1 k1).1
  clear hA k0 hb1
  go_wp2_with fail
  refine (H1 w1).mono ?_
  rintro e w2 ⟨v2, rfl, o2, hb2⟩
  have B2 := below_on B1 hb2
  have k2 := (hb2.block w.heap.size l1).trans k1
  have l2 := hb2.size
  have c20 : w2.cell? ⟨w.heap.size, 0, none⟩ = some (.string kk) := by rw [Go.Joins.cell_of_block k2]; rfl
  have c21 : w2.cell? ⟨w.heap.size, 1, none⟩ = some (.string vv) := by rw [Go.Joins.cell_of_block k2]; rfl
  have c22 : w2.cell? ⟨w.heap.size, 2, none⟩ = some (.int .i64 tt) := by rw [Go.Joins.cell_of_block k2]; rfl
  clear c10 c11 c12 k1 B1 hb2
  go_wp2_with fail
  refine (H2 w2).mono ?_
  rintro e w3 ⟨v3, rfl, o3, hb3⟩
  have B3 := below_on B2 hb3
  have k3 := (hb3.block w.heap.size (by omega)).trans k2
  have l3 := hb3.size
  have o23 := o2.keep hb3
  have c30 : w3.cell? ⟨w.heap.size, 0, none⟩ = some (.string kk) := by rw [Go.Joins.cell_of_block k3]; rfl
  have c32 : w3.cell? ⟨w.heap.size, 2, none⟩ = some (.int .i64 tt) := by rw [Go.Joins.cell_of_block k3]; rfl
  have B3' := below_more B3 (.cells #[.string kk, .int .i64 tt] 39)
  have o23' := o23.alloc' (.cells #[.string kk, .int .i64 tt] 39)
  have o33' := o3.alloc' (.cells #[.string kk, .int .i64 tt] 39)
  have g3 := heap_alloc_new w3 (.cells #[.string kk, .int .i64 tt] 39)
  have lg : w3.heap.size < (w3.alloc (.cells #[.string kk, .int .i64 tt] 39)).heap.size := by simp
  clear c20 c21 c22 k2 B2 hb3 B3 o2 o23 o3 k3
  go_wp2_with fail
  refine (H3 _).mono ?_
  rintro e w4 ⟨v4, rfl, o4, hb4⟩
  have B4 := below_on B3' hb4
  have g4 := (hb4.block w3.heap.size lg).trans g3
  have o24 := o23'.keep hb4
  have o34 := o33'.keep hb4
  have l4 := hb4.size
  have d0 : w4.cell? ⟨w3.heap.size, 0, none⟩ = some (.string kk) := by rw [Go.Joins.cell_of_block g4]; rfl
  have d1 : w4.cell? ⟨w3.heap.size, 1, none⟩ = some (.int .i64 tt) := by rw [Go.Joins.cell_of_block g4]; rfl
  clear B3' o23' o33' g3 hb4
  go_wp2_with fail
  refine (H4 _).mono ?_
  rintro e w5 ⟨v5, rfl, o5, hb5⟩
  have B5 := below_on B4 hb5
  obtain ⟨a1, n1, p1, rfl, s1, _⟩ := (o24.keep hb5).sl' hbr
  obtain ⟨a2, n2, p2, rfl, s2, _⟩ := (o34.keep hb5).sl' hbr
  obtain ⟨a3, n3, p3, rfl, s3, _⟩ := (o4.keep hb5).sl' hbg
  obtain ⟨a4, n4, p4, rfl, s4, _⟩ := o5.sl' hbg
  have t1 := s1.str (P := Try.prog) 29 Try.underlying29 Try.underlying5 Try.underlying9
  have t2 := s2.str (P := Try.prog) 29 Try.underlying29 Try.underlying5 Try.underlying9
  have t3 := s3.str (P := Try.prog) 29 Try.underlying29 Try.underlying5 Try.underlying9
  have t4 := s4.str (P := Try.prog) 29 Try.underlying29 Try.underlying5 Try.underlying9
  clear d0 d1 o24 o34 o4 o5 s1 s2 s3 s4 H1 H2 H3 H4 B4
  go_wp2
  go_ret
  exact ⟨rfl, B5⟩
end
end Go.Proofs.Yteihabdldiopeaa
