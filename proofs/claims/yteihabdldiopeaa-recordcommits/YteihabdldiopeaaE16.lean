/-
  read, and Commit, Row, Gone, Manifest.
-/
import Derived.Test.YteihabdldiopeaaE15
import Derived.Test.YteihabdldiopeaaE10
set_option linter.unusedVariables false
set_option linter.unusedSimpArgs false
namespace Go.Proofs.Yteihabdldiopeaa
open Go.RowKit Go.Maps

section
variable {w : World} {r : Nat} {ao : Option Addr} {len cap : Nat} {xs : List Int} {s : Rs}
set_option maxRecDepth 100000
set_option maxHeartbeats 2000000

theorem takeCommit_any (h : Rd w r ao len cap xs s) :
    Calls Try.prog 60 #[.pointer (some ⟨r, 0, none⟩)] w fun e w' => ∃ v, e = .returned (.agg #[.int .i64 (rnum xs 1099511627775 s).1, v]) ∧ WRow w' w.heap.size v (rlist (rwr xs) (rnum xs 64 (rnum xs 1099511627775 s).2).1.toNat (rnum xs 64 (rnum xs 1099511627775 s).2).2).1 ∧ Rd w' r ao len cap xs (rlist (rwr xs) (rnum xs 64 (rnum xs 1099511627775 s).2).1.toNat (rnum xs 64 (rnum xs 1099511627775 s).2).2).2 ∧ w.grownBy w' (some r) := by
  have hne : w.heap.size ≠ r := by have := h.lt; omega
  have hlt := h.lt
  have z0 := heap_alloc_new w (.cells #[.int .i64 0, .slice none 0 0] 26)
  have G0 : w.grownBy (w.alloc (.cells #[.int .i64 0, .slice none 0 0] 26)) (some r) := World.grownBy_alloc w _ _
  have h0 := h.keep ((Below.refl _ _).alloc (Nat.le_refl _) (.cells #[.int .i64 0, .slice none 0 0] 26))
  clear h
  obtain ⟨R1, e1⟩ : ∃ R, R = rnum xs 1099511627775 s := ⟨_, rfl⟩
  obtain ⟨L, eL⟩ : ∃ L, L = rlist (rwr xs) (rnum xs 64 R1.2).1.toNat (rnum xs 64 R1.2).2 := ⟨_, rfl⟩
  rw [← e1, ← eL]
  have HC1 := time2_any h0
  rw [← e1] at HC1
  have H1 := hide3 HC1
  have EL := hide3 eL
  clear e1 eL HC1 h0
  go_enter Try.func60, Try.ntmps60
  go_wp2_with fail
  refine H1.out.mono ?_
  rintro e w1 ⟨rfl, h1, g1⟩
  have z1 := res3 z0 g1 hne
  have G1 := G0.trans g1
  clear H1 z0 G0 g1
  go_wp2_with fail
  refine writes_any.mono ?_
  rintro e w2 ⟨rfl, hb2⟩
  have h2 := h1.keep hb2
  have z2 := (hb2.block w.heap.size (Array.getElem?_eq_some_iff.1 z1).1).trans z1
  have G2 := G1.andThen (grown_of_below hb2 none) (fun j e => by cases e)
  have HL := takeWrites_any h2
  rw [← EL.out] at HL
  have HL2 := hide3 HL
  clear HL h1 z1 G1 hb2
  go_wp2_with fail
  refine HL2.out.mono ?_
  rintro e w3 ⟨v3, rfl, ho3, h3, g3⟩
  have z3 := res3 z2 g3 hne
  have G3 := G2.trans g3
  have c0 : w3.cell? ⟨w.heap.size, 0, none⟩ = some (.int .i64 0) := by rw [Go.Joins.cell_of_block z3]; rfl
  have c1 : w3.cell? ⟨w.heap.size, 1, none⟩ = some (.slice none 0 0) := by rw [Go.Joins.cell_of_block z3]; rfl
  have f0 := Go.Joins.unfrozen_of_block z3 0
  have f1 := Go.Joins.unfrozen_of_block z3 1
  have hgs : w.heap.size < w2.heap.size := (Array.getElem?_eq_some_iff.1 z2).1
  have hvne : v3.ownBlock ≠ some w.heap.size := fun e => by
    have := (World.ownsRow.lt ho3 _ e).1
    omega
  have HF := hide3 (h3.laid G3 hlt (Nat.le_refl _) z3 (no2 (by simp) (by simp)) (set2 _ _ (.int .i64 R1.1) v3))
  have HO := hide3 (row_low (World.ownsRow.kept ho3 (set2 w3 w.heap.size (.int .i64 R1.1) v3) (.inr hvne)) (base' := w.heap.size) (by omega))
  have zW : ((w3.setCell ⟨w.heap.size, 0, none⟩ (.int .i64 R1.1)).setCell ⟨w.heap.size, 1, none⟩ v3).heap[w.heap.size]? = some (.cells #[.int .i64 R1.1, v3] 26 (0, 0)) := blk_set2 z3 _ _
  clear HL2 z2 G2 h2 g3 G3 h3 z3
  obtain ⟨av, lv, cv, rfl⟩ : ∃ a l c, v3 = .slice a l c := by
    rcases ho3.2 with ⟨rfl, _⟩ | ⟨g, cap, cur, rfl, _⟩
    · exact ⟨_, _, _, rfl⟩
    · exact ⟨_, _, _, rfl⟩
  clear ho3
  go_wp2
  generalize ((w3.setCell ⟨w.heap.size, 0, none⟩ (.int .i64 R1.1)).setCell ⟨w.heap.size, 1, none⟩ (.slice av lv cv)) = W at HF HO zW ⊢
  clear c0 c1 f0 f1
  have y0 : W.cell? ⟨w.heap.size, 0, none⟩ = some (.int .i64 R1.1) := (by rw [Go.Joins.cell_of_block zW]; rfl)
  have y1 : W.cell? ⟨w.heap.size, 1, none⟩ = some (.slice av lv cv) := (by rw [Go.Joins.cell_of_block zW]; rfl)
  refine bodyPost_ret (v := .agg #[.int .i64 R1.1, .slice av lv cv]) (by simp [results, Try.results60, go_sem, y0, y1]) rfl ⟨_, rfl, HO.out, HF.out.1, HF.out.2⟩

theorem takeManifest_any (h : Rd w r ao len cap xs s) :
    Calls Try.prog 80 #[.pointer (some ⟨r, 0, none⟩)] w fun e w' => ∃ v, e = .returned (.agg #[.int .i64 (rnum xs 1099511627775 s).1, .int .i64 (rnum xs 2147483647 (rnum xs 1099511627775 s).2).1, v]) ∧ PRow w' w.heap.size v (rlist (rpr xs) (rnum xs 16 (rnum xs 2147483647 (rnum xs 1099511627775 s).2).2).1.toNat (rnum xs 16 (rnum xs 2147483647 (rnum xs 1099511627775 s).2).2).2).1 ∧ Rd w' r ao len cap xs (rlist (rpr xs) (rnum xs 16 (rnum xs 2147483647 (rnum xs 1099511627775 s).2).2).1.toNat (rnum xs 16 (rnum xs 2147483647 (rnum xs 1099511627775 s).2).2).2).2 ∧ w.grownBy w' (some r) := by
  have hne : w.heap.size ≠ r := by have := h.lt; omega
  have hlt := h.lt
  have z0 := heap_alloc_new w (.cells #[.int .i64 0, .int .i64 0, .slice none 0 0] 44)
  have G0 : w.grownBy (w.alloc (.cells #[.int .i64 0, .int .i64 0, .slice none 0 0] 44)) (some r) := World.grownBy_alloc w _ _
  have h0 := h.keep ((Below.refl _ _).alloc (Nat.le_refl _) (.cells #[.int .i64 0, .int .i64 0, .slice none 0 0] 44))
  clear h
  obtain ⟨R1, e1⟩ : ∃ R, R = rnum xs 1099511627775 s := ⟨_, rfl⟩
  obtain ⟨R2, e2⟩ : ∃ R, R = rnum xs 2147483647 R1.2 := ⟨_, rfl⟩
  obtain ⟨L, eL⟩ : ∃ L, L = rlist (rpr xs) (rnum xs 16 R2.2).1.toNat (rnum xs 16 R2.2).2 := ⟨_, rfl⟩
  rw [← e1, ← e2, ← eL]
  have E2 := hide3 e2
  have HC1 := time2_any h0
  rw [← e1] at HC1
  have H1 := hide3 HC1
  have EL := hide3 eL
  clear e1 e2 eL HC1 h0
  go_enter Try.func80, Try.ntmps80
  go_wp2_with fail
  refine H1.out.mono ?_
  rintro e w1 ⟨rfl, h1, g1⟩
  have z1 := res3 z0 g1 hne
  have G1 := G0.trans g1
  have HC2 := fileNumber_any h1
  rw [← E2.out] at HC2
  have H2 := hide3 HC2
  clear H1 z0 G0 g1 HC2
  go_wp2_with fail
  refine H2.out.mono ?_
  rintro e w1b ⟨rfl, h1b, g1b⟩
  have z1b := res3 z1 g1b hne
  have G1b := G1.trans g1b
  clear H2 z1 G1 g1b h1
  go_wp2_with fail
  refine pairs_any.mono ?_
  rintro e w2 ⟨rfl, hb2⟩
  have h2 := h1b.keep hb2
  have z2 := (hb2.block w.heap.size (Array.getElem?_eq_some_iff.1 z1b).1).trans z1b
  have G2 := G1b.andThen (grown_of_below hb2 none) (fun j e => by cases e)
  have HL := takePairs_any h2
  rw [← EL.out] at HL
  have HL2 := hide3 HL
  clear HL h1b z1b G1b hb2
  go_wp2_with fail
  refine HL2.out.mono ?_
  rintro e w3 ⟨v3, rfl, ho3, h3, g3⟩
  have z3 := res3 z2 g3 hne
  have G3 := G2.trans g3
  have c0 : w3.cell? ⟨w.heap.size, 0, none⟩ = some (.int .i64 0) := by rw [Go.Joins.cell_of_block z3]; rfl
  have c1 : w3.cell? ⟨w.heap.size, 1, none⟩ = some (.int .i64 0) := by rw [Go.Joins.cell_of_block z3]; rfl
  have c2 : w3.cell? ⟨w.heap.size, 2, none⟩ = some (.slice none 0 0) := by rw [Go.Joins.cell_of_block z3]; rfl
  have f2 := Go.Joins.unfrozen_of_block z3 2
  have f0 := Go.Joins.unfrozen_of_block z3 0
  have f1 := Go.Joins.unfrozen_of_block z3 1
  have hgs : w.heap.size < w2.heap.size := (Array.getElem?_eq_some_iff.1 z2).1
  have hvne : v3.ownBlock ≠ some w.heap.size := fun e => by
    have := (World.ownsRow.lt ho3 _ e).1
    omega
  have HF := hide3 (h3.laid G3 hlt (Nat.le_refl _) z3 (no3 (by simp) (by simp) (by simp)) (set3 _ _ (.int .i64 R1.1) (.int .i64 R2.1) v3))
  have HO := hide3 (row_low (World.ownsRow.kept ho3 (set3 w3 w.heap.size (.int .i64 R1.1) (.int .i64 R2.1) v3) (.inr hvne)) (base' := w.heap.size) (by omega))
  have zW : (((w3.setCell ⟨w.heap.size, 0, none⟩ (.int .i64 R1.1)).setCell ⟨w.heap.size, 1, none⟩ (.int .i64 R2.1)).setCell ⟨w.heap.size, 2, none⟩ v3).heap[w.heap.size]? = some (.cells #[.int .i64 R1.1, .int .i64 R2.1, v3] 44 (0, 0)) := blk_set3 z3 _ _ _
  clear HL2 z2 G2 h2 g3 G3 h3 z3
  obtain ⟨av, lv, cv, rfl⟩ : ∃ a l c, v3 = .slice a l c := by
    rcases ho3.2 with ⟨rfl, _⟩ | ⟨g, cap, cur, rfl, _⟩
    · exact ⟨_, _, _, rfl⟩
    · exact ⟨_, _, _, rfl⟩
  clear ho3
  go_wp2
  generalize (((w3.setCell ⟨w.heap.size, 0, none⟩ (.int .i64 R1.1)).setCell ⟨w.heap.size, 1, none⟩ (.int .i64 R2.1)).setCell ⟨w.heap.size, 2, none⟩ (.slice av lv cv)) = W at HF HO zW ⊢
  clear c0 c1 f0 f1 c2 f2
  have y0 : W.cell? ⟨w.heap.size, 0, none⟩ = some (.int .i64 R1.1) := (by rw [Go.Joins.cell_of_block zW]; rfl)
  have y1 : W.cell? ⟨w.heap.size, 1, none⟩ = some (.int .i64 R2.1) := (by rw [Go.Joins.cell_of_block zW]; rfl)
  have y2 : W.cell? ⟨w.heap.size, 2, none⟩ = some (.slice av lv cv) := (by rw [Go.Joins.cell_of_block zW]; rfl)
  refine bodyPost_ret (v := .agg #[.int .i64 R1.1, .int .i64 R2.1, .slice av lv cv]) (by simp [results, Try.results80, go_sem, y0, y1, y2]) rfl ⟨_, rfl, HO.out, HF.out.1, HF.out.2⟩
end
end Go.Proofs.Yteihabdldiopeaa
