/-
  Rn4: Open of a new disk, and of nil.
-/
import Derived.Test.YthfcjfhaoabdeaaGreatDoorRz60
import Derived.RegionTactic
import Derived.ChangeAlike
import Derived.Test.YthfcjfhaoabdeaaGreatDoorRz25
import Derived.Test.YthfcjfhaoabdeaaGreatDoorRz37
import Derived.Test.YthfcjfhaoabdeaaGreatDoorRz20
import Derived.Deep.RegionWith
set_option linter.unusedVariables false
set_option linter.unusedSimpArgs false
namespace Go.Proofs.YthfcjfhaoabdeaaGreatDoor
open Go.RowKit Go.Maps
attribute [local go_sem] Oper.semAt_some

abbrev stZ : Array Value := #[.int .i64 0, .int .i64 0, .slice none 0 0, .slice none 0 0, .slice none 0 0, .slice none 0 0, .int .i64 0]
/-- What holds when so many steps of Open are done. -/
def Ist (W : World) (A : Nat → Prop) (o d : Nat) (k : Nat) (u : World) : Prop :=
  Fr (fun j => j = o ∨ A j) W u ∧ match k with
    | 0 => DV u A d sA ∧ Oc u o (.pointer (some ⟨d, 0, none⟩)) 0 (.slice none 0 0) (.pointer none) (.slice none 0 0)
    | 1 => DV u A d sA ∧ Oc u o (.pointer (some ⟨d, 0, none⟩)) 1 (.slice none 0 0) (.pointer none) (.slice none 0 0)
    | 2 => DV u A d sA ∧ Oc u o (.pointer (some ⟨d, 0, none⟩)) 1 (.slice none 0 0) (.pointer none) (.slice none 0 0)
    | 3 => ∃ l ao cap, Oc u o (.pointer (some ⟨d, 0, none⟩)) 1 (.slice none 0 0) (.pointer (some ⟨l, 0, none⟩)) (.slice ao 0 cap) ∧ KS u ao 0 cap []
    | _ => ∃ l ao cap ra rc, Oc u o (.pointer (some ⟨d, 0, none⟩)) 1 (.slice ra 0 rc) (.pointer (some ⟨l, 0, none⟩)) (.slice ao 0 cap)
section
set_option maxHeartbeats 8000000
set_option maxRecDepth 100000
variable {w : World} {A : Nat → Prop} {d : Nat}
theorem four_new {W : World} {o g B : Nat} (hW : DV W A d sA) (hAB : ∀ j, A j → B ≤ j) (hB0 : 0 < B) (hoB : B ≤ o) (hoA : ¬ A o) (hgo : g ≠ o) (hgA : ¬ A g) (hgl : g < W.heap.size) (hBW : B ≤ W.heap.size) (hg : Gl B W) (hE : Ee W)
    (hO : Oc W o (.pointer (some ⟨d, 0, none⟩)) 0 (.slice none 0 0) (.pointer none) (.slice none 0 0))
    (c0 : W.cell? ⟨g, 0, none⟩ = some (clo 29 o)) (c1 : W.cell? ⟨g, 1, none⟩ = some (clo 30 o)) (c2 : W.cell? ⟨g, 2, none⟩ = some (clo 31 o)) (c3 : W.cell? ⟨g, 3, none⟩ = some (clo 32 o)) :
    Calls Tryz.prog 12 #[.slice (some ⟨g, 0, none⟩) 4 4] W fun e w' => e = .returned .nilIface ∧ Ist W A o d 4 w' := by
  have low : ∀ u, Fr (fun j => j = o ∨ A j) W u → Below B W u := fun u hu => hu.to (fun k hk e => by
    rcases e with rfl | e
    · omega
    · have := hAB k e; omega) hBW
  have gel : ∀ (i : Nat) u, Fr (fun j => j = o ∨ A j) W u → u.cell? ⟨g, i, none⟩ = W.cell? ⟨g, i, none⟩ := fun i u hu => hu.cell (p := ⟨g, i, none⟩) hgl (fun e => e.elim hgo hgA)
  have hEu : ∀ u, Fr (fun j => j = o ∨ A j) W u → Ee u := fun u hu => ((low u hu).cell (p := ⟨0, 0, none⟩) hB0).trans hE
  refine firstOf4_all (I := Ist W A o d) (fun k u hu => ⟨(gel 0 u hu.1).trans c0, (gel 1 u hu.1).trans c1, (gel 2 u hu.1).trans c2, (gel 3 u hu.1).trans c3⟩) ?_ ?_ ?_ ?_ ⟨Fr.refl _ _, hW, hO⟩
  · rintro u ⟨hF, hD, hO⟩
    refine (oload_new hD hO).mono ?_
    rintro e w' ⟨rfl, hO', hF'⟩
    exact ⟨rfl, hF.trans hF' (fun j h => .inl (.inl h)), hD.keep hF' (fun j hj e => hoA (by rw [← e]; exact hj)), hO'⟩
  · rintro u ⟨hF, hD, hO⟩
    refine (ofind_new hD hO).mono ?_
    rintro e w' ⟨rfl, hb⟩
    exact ⟨rfl, hF.trans (Fr.below (F := fun _ => False) hb) (fun j h => h.elim), hD.below hb, hO.below hb⟩
  · rintro u ⟨hF, hD, hO⟩
    refine (oopen_new hD hAB (Nat.le_trans hBW hF.size) (hg.on (low u hF)) hoA hO).mono ?_
    rintro e w' ⟨rfl, l, ao, cap, hO', hk, hF'⟩
    exact ⟨rfl, hF.trans hF' (fun j h => .inl h), l, ao, cap, hO', hk⟩
  · rintro u ⟨hF, l, ao, cap, hO, hk⟩
    refine (oreplay_new (hEu u hF) (by omega) hO hk).mono ?_
    rintro e w' ⟨rfl, ra, rc, hO', hF'⟩
    exact ⟨rfl, hF.trans hF' (fun j h => .inl (.inl h)), l, ao, cap, ra, rc, hO'⟩

theorem open_new {B : Nat} (hD : DV w A d sA) (hAB : ∀ j, A j → B ≤ j) (hB0 : 0 < B) (hB : B ≤ w.heap.size) (hg : Gl B w) (hE : Ee w) :
    Calls Tryz.prog 9 #[.pointer (some ⟨d, 0, none⟩)] w fun e w' => ∃ l ra rc, e = .returned (.tuple #[.agg #[.int .i64 0, .int .i64 1, .slice none 0 0, .slice ra 0 rc, .slice none 0 0, .slice none 0 0, .int .i64 0], .pointer (some ⟨l, 0, none⟩), .int .i64 0]) ∧ Below B w w' := by
  obtain ⟨W1, hW1⟩ : ∃ W1, W1 = (w.alloc (.cells stZ 43)).alloc (.cells #[.pointer (some ⟨d, 0, none⟩), .int .i64 0, .int .i64 0, .slice none 0 0, .slice none 0 0, .slice none 0 0, .slice none 0 0, .int .i64 0, .pointer none, .slice none 0 0] 72) := ⟨_, rfl⟩
  have hs1 : W1.heap.size = w.heap.size + 2 := by rw [hW1]; simp
  have hb1 : Below w.heap.size w W1 := by rw [hW1]; exact (ML.below1 w _).alloc (by simp) _
  have k0 : W1.heap[w.heap.size]? = some (.cells stZ 43 (0, 0)) := by rw [hW1, Below.heap_alloc _ _ _ (by simp)]; exact heap_alloc_new _ _
  have hO1 : Oc W1 (w.heap.size + 1) (.pointer (some ⟨d, 0, none⟩)) 0 (.slice none 0 0) (.pointer none) (.slice none 0 0) := by
    unfold Oc
    rw [hW1]
    have := heap_alloc_new (w.alloc (.cells stZ 43)) (.cells #[.pointer (some ⟨d, 0, none⟩), .int .i64 0, .int .i64 0, .slice none 0 0, .slice none 0 0, .slice none 0 0, .slice none 0 0, .int .i64 0, .pointer none, .slice none 0 0] 72)
    rw [show (w.alloc (.cells stZ 43)).heap.size = w.heap.size + 1 by simp] at this
    exact this
  have HFI : Hid (∀ T, Calls Tryz.prog 12 #[.slice (some ⟨w.heap.size + 1 + 1, 0, none⟩) 4 4] (W1.alloc (.cells #[clo 29 (w.heap.size + 1), clo 30 (w.heap.size + 1), clo 31 (w.heap.size + 1), clo 32 (w.heap.size + 1)] T)) fun e w' => e = .returned .nilIface ∧ Hid (Below B w w' ∧ w'.heap[w.heap.size]? = some (.cells stZ 43 (0, 0)) ∧ ∃ l ao cap ra rc, Oc w' (w.heap.size + 1) (.pointer (some ⟨d, 0, none⟩)) 1 (.slice ra 0 rc) (.pointer (some ⟨l, 0, none⟩)) (.slice ao 0 cap))) := ehide3 (fun T => by
    have hb2 : Below W1.heap.size W1 (W1.alloc (.cells #[clo 29 (w.heap.size + 1), clo 30 (w.heap.size + 1), clo 31 (w.heap.size + 1), clo 32 (w.heap.size + 1)] T)) := ML.below1 _ _
    have kg := heap_alloc_new W1 (.cells #[clo 29 (w.heap.size + 1), clo 30 (w.heap.size + 1), clo 31 (w.heap.size + 1), clo 32 (w.heap.size + 1)] T)
    rw [hs1] at kg
    generalize W1.alloc (.cells #[clo 29 (w.heap.size + 1), clo 30 (w.heap.size + 1), clo 31 (w.heap.size + 1), clo 32 (w.heap.size + 1)] T) = W2 at *
    have hgl := (Array.getElem?_eq_some_iff.1 kg).1
    have hbw : Below w.heap.size w W2 := hb1.trans (hb2.mono (by omega))
    have hAl : ∀ j, A j → j < w.heap.size := hD.lt
    refine (four_new (W := W2) (o := w.heap.size + 1) (g := w.heap.size + 2) (B := B) (hD.below hbw) hAB hB0 (by omega) (fun h => by have := hAl _ h; omega) (by omega) (fun h => by have := hAl _ h; omega) hgl (by have := hbw.size; omega) (hg.on (hbw.mono hB)) ((hbw.cell (p := ⟨0, 0, none⟩) (by show 0 < _; omega)).trans hE) (hO1.below hb2) ?_ ?_ ?_ ?_).mono ?_
    · rw [Go.Joins.cell_of_block kg]; rfl
    · rw [Go.Joins.cell_of_block kg]; rfl
    · rw [Go.Joins.cell_of_block kg]; rfl
    · rw [Go.Joins.cell_of_block kg]; rfl
    · rintro e w' ⟨rfl, hF, hI⟩
      refine ⟨rfl, ehide3 ⟨(hbw.mono hB).trans (hF.to (fun k hk e => ?_) (by have := hbw.size; omega)), (hF.block w.heap.size (by omega) (fun e => ?_)).trans ((hb2.block _ (by omega)).trans k0), hI⟩⟩
      · rcases e with rfl | e
        · omega
        · have := hAB k e; omega
      · rcases e with e | e
        · omega
        · have := hAl _ e; omega)
  have HNN := ehide3 (fun w => numberOf_nil w)
  rw [hW1] at HFI
  clear hD hg hE hO1 k0 hb1 hs1 hW1
  go_enter Tryz.func9, Tryz.ntmps9
  go_wp2_with fail
  refine (HFI.out _).mono ?_
  rintro e w4 ⟨rfl, HR⟩
  clear HFI
  go_wp2_with fail
  refine (HNN.out _).mono ?_
  rintro e w5 ⟨rfl, hb5⟩
  obtain ⟨hB4, hk4, l, ao, cap, ra, rc, hO4⟩ := HR.out
  have hO5 := hO4.below hb5
  have hk5 := (hb5.block _ (Array.getElem?_eq_some_iff.1 hk4).1).trans hk4
  have HB5 := ehide3 (hB4.trans (hb5.mono (Nat.le_trans hB hB4.size)))
  have c1 : w5.cell? ⟨w.heap.size + 1, 1, none⟩ = some (.int .i64 0) := hO5.cell 1
  have c2 : w5.cell? ⟨w.heap.size + 1, 2, none⟩ = some (.int .i64 1) := hO5.cell 2
  have c3 : w5.cell? ⟨w.heap.size + 1, 3, none⟩ = some (.slice none 0 0) := hO5.cell 3
  have c4 : w5.cell? ⟨w.heap.size + 1, 4, none⟩ = some (.slice ra 0 rc) := hO5.cell 4
  have c5 : w5.cell? ⟨w.heap.size + 1, 5, none⟩ = some (.slice none 0 0) := hO5.cell 5
  have c6 : w5.cell? ⟨w.heap.size + 1, 6, none⟩ = some (.slice none 0 0) := hO5.cell 6
  have c7 : w5.cell? ⟨w.heap.size + 1, 7, none⟩ = some (.int .i64 0) := hO5.cell 7
  have c8 : w5.cell? ⟨w.heap.size + 1, 8, none⟩ = some (.pointer (some ⟨l, 0, none⟩)) := hO5.cell 8
  have HK5 := ehide3 hk5
  have m0 : w5.cell? ⟨w.heap.size, 0, none⟩ = some (.int .i64 0) := (Go.Joins.cell_of_block hk5 0).trans rfl
  have f0 := Go.Joins.unfrozen_of_block hk5 0
  have m1 : w5.cell? ⟨w.heap.size, 1, none⟩ = some (.int .i64 0) := (Go.Joins.cell_of_block hk5 1).trans rfl
  have f1 := Go.Joins.unfrozen_of_block hk5 1
  have m2 : w5.cell? ⟨w.heap.size, 2, none⟩ = some (.slice none 0 0) := (Go.Joins.cell_of_block hk5 2).trans rfl
  have f2 := Go.Joins.unfrozen_of_block hk5 2
  have m3 : w5.cell? ⟨w.heap.size, 3, none⟩ = some (.slice none 0 0) := (Go.Joins.cell_of_block hk5 3).trans rfl
  have f3 := Go.Joins.unfrozen_of_block hk5 3
  have m4 : w5.cell? ⟨w.heap.size, 4, none⟩ = some (.slice none 0 0) := (Go.Joins.cell_of_block hk5 4).trans rfl
  have f4 := Go.Joins.unfrozen_of_block hk5 4
  have m5 : w5.cell? ⟨w.heap.size, 5, none⟩ = some (.slice none 0 0) := (Go.Joins.cell_of_block hk5 5).trans rfl
  have f5 := Go.Joins.unfrozen_of_block hk5 5
  have m6 : w5.cell? ⟨w.heap.size, 6, none⟩ = some (.int .i64 0) := (Go.Joins.cell_of_block hk5 6).trans rfl
  have f6 := Go.Joins.unfrozen_of_block hk5 6
  have zW := (blk_set (i := 6) (v := .int .i64 0) (blk_set (i := 5) (v := .slice none 0 0) (blk_set (i := 4) (v := .slice none 0 0) (blk_set (i := 3) (v := .slice ra 0 rc) (blk_set (i := 2) (v := .slice none 0 0) (blk_set (i := 1) (v := .int .i64 1) (blk_set (i := 0) (v := .int .i64 0) hk5)))))))
  have BW : Below B w (((((((w5.setCell ⟨w.heap.size, 0, none⟩ (.int .i64 0)).setCell ⟨w.heap.size, 1, none⟩ (.int .i64 1)).setCell ⟨w.heap.size, 2, none⟩ (.slice none 0 0)).setCell ⟨w.heap.size, 3, none⟩ (.slice ra 0 rc)).setCell ⟨w.heap.size, 4, none⟩ (.slice none 0 0)).setCell ⟨w.heap.size, 5, none⟩ (.slice none 0 0)).setCell ⟨w.heap.size, 6, none⟩ (.int .i64 0)) := (Below.setCell (Below.setCell (Below.setCell (Below.setCell (Below.setCell (Below.setCell (Below.setCell HB5.out (p := ⟨w.heap.size, 0, none⟩) (show B ≤ w.heap.size from hB) _) (p := ⟨w.heap.size, 1, none⟩) (show B ≤ w.heap.size from hB) _) (p := ⟨w.heap.size, 2, none⟩) (show B ≤ w.heap.size from hB) _) (p := ⟨w.heap.size, 3, none⟩) (show B ≤ w.heap.size from hB) _) (p := ⟨w.heap.size, 4, none⟩) (show B ≤ w.heap.size from hB) _) (p := ⟨w.heap.size, 5, none⟩) (show B ≤ w.heap.size from hB) _) (p := ⟨w.heap.size, 6, none⟩) (show B ≤ w.heap.size from hB) _)
  clear HR HNN hb5 hB4 hk4 hO4 hO5 hk5
  go_wp2_with fail
  go_region
  go_wp2
  generalize (((((((w5.setCell ⟨w.heap.size, 0, none⟩ (.int .i64 0)).setCell ⟨w.heap.size, 1, none⟩ (.int .i64 1)).setCell ⟨w.heap.size, 2, none⟩ (.slice none 0 0)).setCell ⟨w.heap.size, 3, none⟩ (.slice ra 0 rc)).setCell ⟨w.heap.size, 4, none⟩ (.slice none 0 0)).setCell ⟨w.heap.size, 5, none⟩ (.slice none 0 0)).setCell ⟨w.heap.size, 6, none⟩ (.int .i64 0)) = W at zW BW ⊢
  have yy0 : W.drew.cell? ⟨w.heap.size, 0, none⟩ = some (.int .i64 0) := (show W.cell? _ = _ from by rw [Go.Joins.cell_of_block zW]; rfl)
  have yy1 : W.drew.cell? ⟨w.heap.size, 1, none⟩ = some (.int .i64 1) := (show W.cell? _ = _ from by rw [Go.Joins.cell_of_block zW]; rfl)
  have yy2 : W.drew.cell? ⟨w.heap.size, 2, none⟩ = some (.slice none 0 0) := (show W.cell? _ = _ from by rw [Go.Joins.cell_of_block zW]; rfl)
  have yy3 : W.drew.cell? ⟨w.heap.size, 3, none⟩ = some (.slice ra 0 rc) := (show W.cell? _ = _ from by rw [Go.Joins.cell_of_block zW]; rfl)
  have yy4 : W.drew.cell? ⟨w.heap.size, 4, none⟩ = some (.slice none 0 0) := (show W.cell? _ = _ from by rw [Go.Joins.cell_of_block zW]; rfl)
  have yy5 : W.drew.cell? ⟨w.heap.size, 5, none⟩ = some (.slice none 0 0) := (show W.cell? _ = _ from by rw [Go.Joins.cell_of_block zW]; rfl)
  have yy6 : W.drew.cell? ⟨w.heap.size, 6, none⟩ = some (.int .i64 0) := (show W.cell? _ = _ from by rw [Go.Joins.cell_of_block zW]; rfl)
  exact bodyPost_ret (v := .tuple #[.agg #[.int .i64 0, .int .i64 1, .slice none 0 0, .slice ra 0 rc, .slice none 0 0, .slice none 0 0, .int .i64 0], .pointer (some ⟨l, 0, none⟩), .int .i64 0]) (by simp [results, Tryz.results9, go_sem, yy0, yy1, yy2, yy3, yy4, yy5, yy6]) rfl ⟨l, ra, rc, rfl, below_drewN BW 1⟩

theorem ropen_nil (hE : Ee w) :
    Calls Tryz.prog 9 #[.pointer none] w fun e w' => e = .returned (.tuple #[.agg #[.int .i64 0, .int .i64 0, .slice none 0 0, .slice none 0 0, .slice none 0 0, .slice none 0 0, .int .i64 0], .pointer none, .int .i64 1]) ∧ Below w.heap.size w w' := by
  have hpos : 0 < w.heap.size := by
    rcases Nat.eq_zero_or_pos w.heap.size with h0 | h
    · unfold Ee at hE; simp [World.cell?, h0] at hE
    · exact h
  obtain ⟨W1, hW1⟩ : ∃ W1, W1 = (w.alloc (.cells stZ 43)).alloc (.cells #[.pointer none, .int .i64 0, .int .i64 0, .slice none 0 0, .slice none 0 0, .slice none 0 0, .slice none 0 0, .int .i64 0, .pointer none, .slice none 0 0] 72) := ⟨_, rfl⟩
  have hs1 : W1.heap.size = w.heap.size + 2 := by rw [hW1]; simp
  have hb1 : Below w.heap.size w W1 := by rw [hW1]; exact (ML.below1 w _).alloc (by simp) _
  have k0 : W1.heap[w.heap.size]? = some (.cells stZ 43 (0, 0)) := by rw [hW1, Below.heap_alloc _ _ _ (by simp)]; exact heap_alloc_new _ _
  have hO1 : Oc W1 (w.heap.size + 1) (.pointer none) 0 (.slice none 0 0) (.pointer none) (.slice none 0 0) := by
    unfold Oc
    rw [hW1]
    have := heap_alloc_new (w.alloc (.cells stZ 43)) (.cells #[.pointer none, .int .i64 0, .int .i64 0, .slice none 0 0, .slice none 0 0, .slice none 0 0, .slice none 0 0, .int .i64 0, .pointer none, .slice none 0 0] 72)
    rw [show (w.alloc (.cells stZ 43)).heap.size = w.heap.size + 1 by simp] at this
    exact this
  have HFI : Hid (∀ T, Calls Tryz.prog 12 #[.slice (some ⟨w.heap.size + 1 + 1, 0, none⟩) 4 4] (W1.alloc (.cells #[clo 29 (w.heap.size + 1), clo 30 (w.heap.size + 1), clo 31 (w.heap.size + 1), clo 32 (w.heap.size + 1)] T)) fun e w' => e = .returned (flt 1) ∧ Hid (Below w.heap.size w w' ∧ w'.heap[w.heap.size]? = some (.cells stZ 43 (0, 0)))) := ehide3 (fun T => by
    have hb2 : Below W1.heap.size W1 (W1.alloc (.cells #[clo 29 (w.heap.size + 1), clo 30 (w.heap.size + 1), clo 31 (w.heap.size + 1), clo 32 (w.heap.size + 1)] T)) := ML.below1 _ _
    have kg := heap_alloc_new W1 (.cells #[clo 29 (w.heap.size + 1), clo 30 (w.heap.size + 1), clo 31 (w.heap.size + 1), clo 32 (w.heap.size + 1)] T)
    rw [hs1] at kg
    generalize W1.alloc (.cells #[clo 29 (w.heap.size + 1), clo 30 (w.heap.size + 1), clo 31 (w.heap.size + 1), clo 32 (w.heap.size + 1)] T) = W2 at *
    have hbw : Below w.heap.size w W2 := hb1.trans (hb2.mono (by omega))
    have hs2 := hb2.size
    refine firstOf4_bad (by rw [Go.Joins.cell_of_block kg]; rfl) ((oload_nil (hO1.below hb2)).mono ?_)
    rintro e w' ⟨rfl, hF⟩
    exact ⟨rfl, ehide3 ⟨hbw.trans (hF.to (fun k hk e => by omega) hbw.size), (hF.block w.heap.size (by omega) (by omega)).trans ((hb2.block _ (by omega)).trans k0)⟩⟩)
  have HE := ehide3 hE
  rw [hW1] at HFI
  clear hE hO1 k0 hb1 hs1 hW1
  go_enter Tryz.func9, Tryz.ntmps9
  go_wp2_with fail
  refine (HFI.out _).mono ?_
  rintro e w4 ⟨rfl, HR⟩
  have HNN := ehide3 (numberOf_flt 1 w4 ((HR.out.1.cell (p := ⟨0, 0, none⟩) hpos).trans HE.out))
  clear HFI
  go_wp2_with fail
  refine HNN.out.mono ?_
  rintro e w5 ⟨rfl, hb5⟩
  obtain ⟨hB4, hk4⟩ := HR.out
  have hk5 := (hb5.block _ (Array.getElem?_eq_some_iff.1 hk4).1).trans hk4
  have HB5 := ehide3 (hB4.trans (hb5.mono hB4.size))
  have m0 : w5.cell? ⟨w.heap.size, 0, none⟩ = some (.int .i64 0) := (Go.Joins.cell_of_block hk5 0).trans rfl
  have f0 := Go.Joins.unfrozen_of_block hk5 0
  have m1 : w5.cell? ⟨w.heap.size, 1, none⟩ = some (.int .i64 0) := (Go.Joins.cell_of_block hk5 1).trans rfl
  have f1 := Go.Joins.unfrozen_of_block hk5 1
  have m2 : w5.cell? ⟨w.heap.size, 2, none⟩ = some (.slice none 0 0) := (Go.Joins.cell_of_block hk5 2).trans rfl
  have f2 := Go.Joins.unfrozen_of_block hk5 2
  have m3 : w5.cell? ⟨w.heap.size, 3, none⟩ = some (.slice none 0 0) := (Go.Joins.cell_of_block hk5 3).trans rfl
  have f3 := Go.Joins.unfrozen_of_block hk5 3
  have m4 : w5.cell? ⟨w.heap.size, 4, none⟩ = some (.slice none 0 0) := (Go.Joins.cell_of_block hk5 4).trans rfl
  have f4 := Go.Joins.unfrozen_of_block hk5 4
  have m5 : w5.cell? ⟨w.heap.size, 5, none⟩ = some (.slice none 0 0) := (Go.Joins.cell_of_block hk5 5).trans rfl
  have f5 := Go.Joins.unfrozen_of_block hk5 5
  have m6 : w5.cell? ⟨w.heap.size, 6, none⟩ = some (.int .i64 0) := (Go.Joins.cell_of_block hk5 6).trans rfl
  have f6 := Go.Joins.unfrozen_of_block hk5 6
  have zW := (blk_set (i := 6) (v := .int .i64 0) (blk_set (i := 5) (v := .slice none 0 0) (blk_set (i := 4) (v := .slice none 0 0) (blk_set (i := 3) (v := .slice none 0 0) (blk_set (i := 2) (v := .slice none 0 0) (blk_set (i := 1) (v := .int .i64 0) (blk_set (i := 0) (v := .int .i64 0) hk5)))))))
  have BW : Below w.heap.size w (((((((w5.setCell ⟨w.heap.size, 0, none⟩ (.int .i64 0)).setCell ⟨w.heap.size, 1, none⟩ (.int .i64 0)).setCell ⟨w.heap.size, 2, none⟩ (.slice none 0 0)).setCell ⟨w.heap.size, 3, none⟩ (.slice none 0 0)).setCell ⟨w.heap.size, 4, none⟩ (.slice none 0 0)).setCell ⟨w.heap.size, 5, none⟩ (.slice none 0 0)).setCell ⟨w.heap.size, 6, none⟩ (.int .i64 0)) := (Below.setCell (Below.setCell (Below.setCell (Below.setCell (Below.setCell (Below.setCell (Below.setCell HB5.out (p := ⟨w.heap.size, 0, none⟩) (show w.heap.size ≤ w.heap.size from Nat.le_refl _) _) (p := ⟨w.heap.size, 1, none⟩) (show w.heap.size ≤ w.heap.size from Nat.le_refl _) _) (p := ⟨w.heap.size, 2, none⟩) (show w.heap.size ≤ w.heap.size from Nat.le_refl _) _) (p := ⟨w.heap.size, 3, none⟩) (show w.heap.size ≤ w.heap.size from Nat.le_refl _) _) (p := ⟨w.heap.size, 4, none⟩) (show w.heap.size ≤ w.heap.size from Nat.le_refl _) _) (p := ⟨w.heap.size, 5, none⟩) (show w.heap.size ≤ w.heap.size from Nat.le_refl _) _) (p := ⟨w.heap.size, 6, none⟩) (show w.heap.size ≤ w.heap.size from Nat.le_refl _) _)
  clear HR HNN hb5 hB4 hk4 hk5
  go_wp2
  generalize (((((((w5.setCell ⟨w.heap.size, 0, none⟩ (.int .i64 0)).setCell ⟨w.heap.size, 1, none⟩ (.int .i64 0)).setCell ⟨w.heap.size, 2, none⟩ (.slice none 0 0)).setCell ⟨w.heap.size, 3, none⟩ (.slice none 0 0)).setCell ⟨w.heap.size, 4, none⟩ (.slice none 0 0)).setCell ⟨w.heap.size, 5, none⟩ (.slice none 0 0)).setCell ⟨w.heap.size, 6, none⟩ (.int .i64 0)) = W at zW BW ⊢
  have yy0 : W.cell? ⟨w.heap.size, 0, none⟩ = some (.int .i64 0) := (by rw [Go.Joins.cell_of_block zW]; rfl)
  have yy1 : W.cell? ⟨w.heap.size, 1, none⟩ = some (.int .i64 0) := (by rw [Go.Joins.cell_of_block zW]; rfl)
  have yy2 : W.cell? ⟨w.heap.size, 2, none⟩ = some (.slice none 0 0) := (by rw [Go.Joins.cell_of_block zW]; rfl)
  have yy3 : W.cell? ⟨w.heap.size, 3, none⟩ = some (.slice none 0 0) := (by rw [Go.Joins.cell_of_block zW]; rfl)
  have yy4 : W.cell? ⟨w.heap.size, 4, none⟩ = some (.slice none 0 0) := (by rw [Go.Joins.cell_of_block zW]; rfl)
  have yy5 : W.cell? ⟨w.heap.size, 5, none⟩ = some (.slice none 0 0) := (by rw [Go.Joins.cell_of_block zW]; rfl)
  have yy6 : W.cell? ⟨w.heap.size, 6, none⟩ = some (.int .i64 0) := (by rw [Go.Joins.cell_of_block zW]; rfl)
  exact bodyPost_ret (v := .tuple #[.agg #[.int .i64 0, .int .i64 0, .slice none 0 0, .slice none 0 0, .slice none 0 0, .slice none 0 0, .int .i64 0], .pointer none, .int .i64 1]) (by simp [results, Tryz.results9, go_sem, yy0, yy1, yy2, yy3, yy4, yy5, yy6]) rfl ⟨rfl, BW⟩
end
end Go.Proofs.YthfcjfhaoabdeaaGreatDoor

/-
  Rn5: The law's examples.
-/
set_option linter.unusedVariables false
set_option linter.unusedSimpArgs false
namespace Go.Proofs.YthfcjfhaoabdeaaGreatDoor
open Go.RowKit Go.Maps
open ML (RS)
attribute [local go_sem] Oper.semAt_some

theorem eqlRo (r : ML.Ro) (u : World) : (binOp .eql 33 (.agg #[.string r.k, .string r.v, .int .i64 r.t]) (.agg #[.string r.k, .string r.v, .int .i64 r.t])).run Tryz.prog u = .ok (.bool true) u := by
  rw [run_eql_struct, run_equalIn_agg _ 9999 33 _ _ ML.htRo ML.hpRo]
  unfold Program.fieldsOf
  rw [Tryz.underlying33]
  simp only [Op.eqFields]
  simp [go_sem, Tryz.isAgg9, Tryz.isAgg2, Tryz.sizeOf9, Tryz.sizeOf2, Tryz.underlying9, Tryz.underlying2]
def xr : ML.Ro := ⟨⟨#[97]⟩, ⟨#[120]⟩, 1⟩
def xw1 : Wr := ⟨⟨#[98]⟩, ⟨#[]⟩, true⟩
def xw2 : Wr := ⟨⟨#[99]⟩, ⟨#[122]⟩, false⟩
def xw3 : Wr := ⟨⟨#[97]⟩, ⟨#[]⟩, true⟩
def xw4 : Wr := ⟨⟨#[98]⟩, ⟨#[121]⟩, false⟩
def xw5 : Wr := ⟨⟨#[100]⟩, ⟨#[119]⟩, false⟩
def xk1 (b : Nat) : Kc := ⟨5, some ⟨b, 0, none⟩, 2, 2, [xw1, xw2]⟩
def xk2 (b : Nat) : Kc := ⟨3, some ⟨b, 0, none⟩, 2, 2, [xw3, xw4]⟩
def xk3 (b : Nat) : Kc := ⟨1, some ⟨b, 0, none⟩, 1, 1, [xw5]⟩
def xe : Kc := ⟨2, none, 0, 0, []⟩
theorem xrpl (a b c : Nat) : rplD [xr] 1 [xk1 a, xk2 b, xk3 c] = some ([⟨⟨#[99]⟩, ⟨#[122]⟩, 5⟩], 5) := by kernel_rfl
theorem xrpl2 : rplD [] 0 [xe, xe] = none := by decide +kernel
/-- A slice of what lies in one new block. -/
theorem seq_block {α : Type} {n : Nat} {f : α → List Value} {w : World} {b k : Nat} {cs : Array Value} {t : TypeId} {xs : List α} (h : w.heap[b]? = some (.cells cs t (0, 0))) (hk : xs.length = k) (hm : k ≤ 100) (hf : ∀ x, (f x).length = n) (hc : cs.toList = xs.flatMap f) : Seq n f w (some ⟨b, 0, none⟩) k k xs := by
  refine ⟨hk, Nat.le_refl _, by unfold maxLen; omega, fun _ => ⟨b, 0, rfl, (Array.getElem?_eq_some_iff.1 h).1, fun i x hi j u hu => ?_⟩⟩
  rw [Go.Joins.cell_of_block h, ← Array.getElem?_toList, hc]
  have flat : ∀ (l : List α) (i : Nat) (x : α), l[i]? = some x → ∀ j u, (f x)[j]? = some u → (l.flatMap f)[i * n + j]? = some u := by
    intro l
    induction l with
    | nil => intro i x h; cases h
    | cons q l ih =>
      intro i x h j u hu
      have hj : j < n := by have := (List.getElem?_eq_some_iff.1 hu).1; rw [hf] at this; exact this
      rw [List.flatMap_cons]
      cases i with
      | zero =>
        cases h
        rw [List.getElem?_append_left (by rw [hf]; omega)]
        simpa using hu
      | succ i =>
        rw [List.getElem?_append_right (by rw [hf, Nat.succ_mul]; omega)]
        have := ih i x (by simpa using h) j u hu
        rw [hf, show (i + 1) * n + j - n = i * n + j by rw [Nat.succ_mul]; omega]
        exact this
  rw [Nat.zero_add]
  exact flat xs i x hi j u hu
theorem xwok : xw1.ok ∧ xw2.ok ∧ xw3.ok ∧ xw4.ok ∧ xw5.ok := by unfold Wr.ok; decide
section
set_option maxHeartbeats 8000000
set_option maxRecDepth 100000
variable {w : World}
theorem shown16_any (hg : Gl w.heap.size w) (hE : Ee w) : Calls Tryz.prog 4 #[] w fun e w' => e = .returned (.bool true) ∧ Below w.heap.size w w' := by
  have hpos : 0 < w.heap.size := by
    rcases Nat.eq_zero_or_pos w.heap.size with h0 | h
    · unfold Ee at hE; simp [World.cell?, h0] at hE
    · exact h
  obtain ⟨W0, hW0⟩ : ∃ W0, W0 = w.alloc (.cells #[.string ⟨#[97]⟩, .string ⟨#[120]⟩, .int .i64 1] 33) := ⟨_, rfl⟩
  obtain ⟨W1, hW1⟩ : ∃ W1, W1 = W0.alloc (.cells #[.string ⟨#[98]⟩, .string ⟨#[]⟩, .bool true, .string ⟨#[99]⟩, .string ⟨#[122]⟩, .bool false] 37) := ⟨_, rfl⟩
  obtain ⟨W2, hW2⟩ : ∃ W2, W2 = W1.alloc (.cells #[.string ⟨#[97]⟩, .string ⟨#[]⟩, .bool true, .string ⟨#[98]⟩, .string ⟨#[121]⟩, .bool false] 37) := ⟨_, rfl⟩
  obtain ⟨W3, hW3⟩ : ∃ W3, W3 = W2.alloc (.cells #[.string ⟨#[100]⟩, .string ⟨#[119]⟩, .bool false] 37) := ⟨_, rfl⟩
  have s0 : W0.heap.size = w.heap.size + 1 := by rw [hW0]; simp
  have s1 : W1.heap.size = w.heap.size + 2 := by rw [hW1]; simp; omega
  have s2 : W2.heap.size = w.heap.size + 3 := by rw [hW2]; simp; omega
  have s3 : W3.heap.size = w.heap.size + 4 := by rw [hW3]; simp; omega
  obtain ⟨W4, hW4⟩ : ∃ W4, W4 = W3.alloc (.cells #[.int .i64 5, .slice (some ⟨w.heap.size + 1, 0, none⟩) 2 2, .int .i64 3, .slice (some ⟨w.heap.size + 2, 0, none⟩) 2 2, .int .i64 1, .slice (some ⟨w.heap.size + 3, 0, none⟩) 1 1] 27) := ⟨_, rfl⟩
  have s4 : W4.heap.size = w.heap.size + 5 := by rw [hW4]; simp; omega
  have b0 : Below w.heap.size w W0 := by rw [hW0]; exact ML.below1 _ _
  have b1 : Below W0.heap.size W0 W1 := by rw [hW1]; exact ML.below1 _ _
  have b2 : Below W1.heap.size W1 W2 := by rw [hW2]; exact ML.below1 _ _
  have b3 : Below W2.heap.size W2 W3 := by rw [hW3]; exact ML.below1 _ _
  have b4 : Below W3.heap.size W3 W4 := by rw [hW4]; exact ML.below1 _ _
  have bw : Below w.heap.size w W4 := b0.trans ((b1.trans ((b2.trans ((b3.trans (b4.mono (by omega))).mono (by omega))).mono (by omega))).mono (by omega))
  have k0 : W4.heap[w.heap.size]? = some (.cells #[.string ⟨#[97]⟩, .string ⟨#[120]⟩, .int .i64 1] 33 (0, 0)) := by
    rw [b4.block _ (by omega), b3.block _ (by omega), b2.block _ (by omega), b1.block _ (by omega), hW0]; exact heap_alloc_new _ _
  have k1 : W4.heap[w.heap.size + 1]? = some (.cells #[.string ⟨#[98]⟩, .string ⟨#[]⟩, .bool true, .string ⟨#[99]⟩, .string ⟨#[122]⟩, .bool false] 37 (0, 0)) := by
    rw [b4.block _ (by omega), b3.block _ (by omega), b2.block _ (by omega), hW1, ← s0]; exact heap_alloc_new _ _
  have k2 : W4.heap[w.heap.size + 2]? = some (.cells #[.string ⟨#[97]⟩, .string ⟨#[]⟩, .bool true, .string ⟨#[98]⟩, .string ⟨#[121]⟩, .bool false] 37 (0, 0)) := by
    rw [b4.block _ (by omega), b3.block _ (by omega), hW2, ← s1]; exact heap_alloc_new _ _
  have k3 : W4.heap[w.heap.size + 3]? = some (.cells #[.string ⟨#[100]⟩, .string ⟨#[119]⟩, .bool false] 37 (0, 0)) := by
    rw [b4.block _ (by omega), hW3, ← s2]; exact heap_alloc_new _ _
  have k4 : W4.heap[w.heap.size + 4]? = some (.cells #[.int .i64 5, .slice (some ⟨w.heap.size + 1, 0, none⟩) 2 2, .int .i64 3, .slice (some ⟨w.heap.size + 2, 0, none⟩) 2 2, .int .i64 1, .slice (some ⟨w.heap.size + 3, 0, none⟩) 1 1] 27 (0, 0)) := by
    rw [hW4, ← s3]; exact heap_alloc_new _ _
  have hRS : RS W4 (some ⟨w.heap.size, 0, none⟩) 1 1 [xr] := seq_block k0 rfl (by decide) (fun _ => rfl) rfl
  have hw1 : WS W4 (some ⟨w.heap.size + 1, 0, none⟩) 2 2 [xw1, xw2] := seq_block k1 rfl (by decide) (fun _ => rfl) rfl
  have hw2 : WS W4 (some ⟨w.heap.size + 2, 0, none⟩) 2 2 [xw3, xw4] := seq_block k2 rfl (by decide) (fun _ => rfl) rfl
  have hw3 : WS W4 (some ⟨w.heap.size + 3, 0, none⟩) 1 1 [xw5] := seq_block k3 rfl (by decide) (fun _ => rfl) rfl
  have hKS : KS W4 (some ⟨w.heap.size + 4, 0, none⟩) 3 3 [xk1 (w.heap.size + 1), xk2 (w.heap.size + 2), xk3 (w.heap.size + 3)] := seq_block k4 rfl (by decide) (fun _ => rfl) rfl
  have hI : Ins W4 (some ⟨w.heap.size + 4, 0, none⟩) 3 3 [xk1 (w.heap.size + 1), xk2 (w.heap.size + 2), xk3 (w.heap.size + 3)] := ⟨hKS, fun c hc => by
      simp only [List.mem_cons, List.not_mem_nil, or_false] at hc
      rcases hc with rfl | rfl | rfl
      · exact hw1
      · exact hw2
      · exact hw3, fun c hc x hx => by
      have q := xwok
      simp only [List.mem_cons, List.not_mem_nil, or_false] at hc
      rcases hc with rfl | rfl | rfl <;> simp only [xk1, xk2, xk3, List.mem_cons, List.not_mem_nil, or_false] at hx
      · rcases hx with rfl | rfl
        · exact q.1
        · exact q.2.1
      · rcases hx with rfl | rfl
        · exact q.2.2.1
        · exact q.2.2.2.1
      · rw [hx]; exact q.2.2.2.2, by omega, by simp [cnt, xk1, xk2, xk3]⟩
  have HR1 := ehide3 (replay_any hRS (fun r hr => by simp only [List.mem_cons, List.not_mem_nil, or_false] at hr; rw [hr]; unfold ML.Ro.ok; decide) (by omega) hI 1 ((bw.cell (p := ⟨0, 0, none⟩) hpos).trans hE))
  rw [xrpl] at HR1
  have HBW := ehide3 bw
  have HE := ehide3 hE
  have HG := ehide3 hg
  rw [hW4, hW3, hW2, hW1, hW0] at HR1
  clear hg hE hRS hw1 hw2 hw3 hKS hI k0 k1 k2 k3 k4 b0 b1 b2 b3 b4
  go_enter Tryz.func4, Tryz.ntmps4
  go_wp2_with fail
  refine HR1.out.mono ?_
  rintro e w1 ⟨h1, hb1⟩
  obtain ⟨v1, rfl, ra, rcap, rfl, hra, _⟩ := h1
  rw [← hW0, ← hW1, ← hW2, ← hW3, ← hW4] at hb1
  have hB1 : Below w.heap.size w w1 := HBW.out.trans (hb1.mono (by omega))
  have hs1 := hB1.size
  have HRA := ehide3 hra
  have HB1 := ehide3 hB1
  obtain ⟨W5, hW5⟩ : ∃ W5, W5 = w1.alloc (.cells #[.int .i64 2, .slice none 0 0, .int .i64 2, .slice none 0 0] 27) := ⟨_, rfl⟩
  have b5 : Below w1.heap.size w1 W5 := by rw [hW5]; exact ML.below1 _ _
  have k5 : W5.heap[w1.heap.size]? = some (.cells #[.int .i64 2, .slice none 0 0, .int .i64 2, .slice none 0 0] 27 (0, 0)) := by rw [hW5]; exact heap_alloc_new _ _
  have hI2 : Ins W5 (some ⟨w1.heap.size, 0, none⟩) 2 2 [xe, xe] := ⟨seq_block k5 rfl (by decide) (fun _ => rfl) rfl, fun c hc => by
      simp only [List.mem_cons, List.not_mem_nil, or_false, or_self] at hc
      subst hc
      exact ⟨rfl, Nat.le_refl _, Nat.zero_le _, fun q => absurd q (Nat.lt_irrefl 0)⟩, fun c hc x hx => by
      simp only [List.mem_cons, List.not_mem_nil, or_false, or_self] at hc
      subst hc
      exact (nomatch hx), by omega, by simp [cnt, xe]⟩
  have HB5 := ehide3 (hB1.trans (b5.mono hs1))
  have HR2 := ehide3 (replay_any (w := W5) (L := []) (ao := none) (len := 0) (cap := 0) ⟨rfl, Nat.le_refl _, Nat.zero_le _, fun q => absurd q (Nat.lt_irrefl 0)⟩ (fun r hr => (by cases hr)) (by omega) hI2 0 ((HB5.out.cell (p := ⟨0, 0, none⟩) hpos).trans HE.out))
  rw [xrpl2] at HR2
  rw [hW5] at HR2
  clear hra hb1 hB1 hI2 k5 HR1 HBW
  clear hW4 hW3 hW2 hW1 hW0 s0 s1 s2 s3 s4
  go_wp2_with fail
  refine HR2.out.mono ?_
  rintro e w2 ⟨h2, hb2⟩
  obtain rfl : e = _ := h2
  rw [← hW5] at hb2
  have hB2 : Below w.heap.size w w2 := HB5.out.trans (hb2.mono HB5.out.size)
  have HRA2 := ehide3 (HRA.out.keep (b5.trans (hb2.mono b5.size)))
  have HB2 := ehide3 hB2
  clear HR2 hb2 b5 HB5 HRA hB2 HB1 hW5
  go_wp2_with fail
  refine (dv_new w2).mono ?_
  rintro e w3 ⟨d, rfl, hD, hb3⟩
  have hz3 := hb3.size
  have hz2 := HB2.out.size
  have hB3 : Below w.heap.size w w3 := HB2.out.trans (hb3.mono hz2)
  have HB3 := ehide3 hB3
  have HB3b := ehide3 hb3
  have HOP := ehide3 (open_new (B := w2.heap.size) (show DV w3 _ d sA from hD) (fun j hj => hj.1) (by omega) hz3 (fun w' hw => HG.out.on hB3 w' (hw.mono hz2)) ((hB3.cell (p := ⟨0, 0, none⟩) hpos).trans HE.out))
  clear hD hb3 hB3
  go_wp2_with fail
  refine HOP.out.mono ?_
  rintro e w4 ⟨l, sa, sc, rfl, hb4⟩
  have hz4 := hb4.size
  have HB4 := ehide3 (HB3.out.trans (hb4.mono hz2))
  have hra4 : RS w4 ra 1 rcap [⟨⟨#[99]⟩, ⟨#[122]⟩, 5⟩] := HRA2.out.keep (HB3b.out.trans hb4)
  obtain ⟨W6, hW6⟩ : ∃ W6, W6 = w4.alloc (.cells #[.int .i64 0, .int .i64 1, .slice none 0 0, .slice sa 0 sc, .slice none 0 0, .slice none 0 0, .int .i64 0] 43) := ⟨_, rfl⟩
  have b6 : Below w4.heap.size w4 W6 := by rw [hW6]; exact ML.below1 _ _
  have k6 : W6.heap[w4.heap.size]? = some (.cells #[.int .i64 0, .int .i64 1, .slice none 0 0, .slice sa 0 sc, .slice none 0 0, .slice none 0 0, .int .i64 0] 43 (0, 0)) := by rw [hW6]; exact heap_alloc_new _ _
  have s6 : W6.heap.size = w4.heap.size + 1 := by rw [hW6]; simp
  have hB6 : Below w.heap.size w W6 := HB4.out.trans (b6.mono HB4.out.size)
  have HB6 := ehide3 hB6
  have HON := ehide3 (ropen_nil (w := W6) ((hB6.cell (p := ⟨0, 0, none⟩) hpos).trans HE.out))
  have HRA6 := ehide3 (hra4.keep b6)
  have HK6 := ehide3 k6
  rw [hW6] at HON
  clear hra4 hb4 HOP HRA2 HB3b b6 k6 hB6
  go_wp2_with fail
  refine HON.out.mono ?_
  rintro e w7 ⟨rfl, hb7⟩
  rw [← hW6] at hb7
  have hz7 := hb7.size
  obtain ⟨W8, hW8⟩ : ∃ W8, W8 = w7.alloc (.cells #[.int .i64 0, .int .i64 0, .slice none 0 0, .slice none 0 0, .slice none 0 0, .slice none 0 0, .int .i64 0] 43) := ⟨_, rfl⟩
  have b8 : Below w7.heap.size w7 W8 := by rw [hW8]; exact ML.below1 _ _
  have hra8 := (HRA6.out.keep hb7).keep b8
  have hk8 := (b8.block _ (by omega)).trans ((hb7.block _ (by omega)).trans HK6.out)
  have HB8 := ehide3 (HB6.out.trans ((hb7.trans (b8.mono hz7)).mono (by have := HB6.out.size; omega)))
  obtain ⟨g, off, rfl, hgl, hc⟩ := ML.RS.at hra8 (by omega)
  have c0 : W8.cell? ⟨g, off, none⟩ = some (.string ⟨#[99]⟩) := (hc 0 _ rfl).1
  have c1 : W8.cell? ⟨g, off + 1, none⟩ = some (.string ⟨#[122]⟩) := (hc 0 _ rfl).2.1
  have c2 : W8.cell? ⟨g, off + 2, none⟩ = some (.int .i64 5) := (hc 0 _ rfl).2.2
  have y1 : W8.cell? ⟨w4.heap.size, 1, none⟩ = some (.int .i64 1) := (Go.Joins.cell_of_block hk8 1).trans rfl
  have y3 : W8.cell? ⟨w4.heap.size, 3, none⟩ = some (.slice sa 0 sc) := (Go.Joins.cell_of_block hk8 3).trans rfl
  have heq := fun u => eqlRo ⟨⟨#[99]⟩, ⟨#[122]⟩, 5⟩ u
  simp only [] at heq
  clear hra8 hk8 hc b8 hb7 HRA6 HK6 HON
  rw [hW8] at c0 c1 c2 y1 y3
  go_wp2
  rw [← hW8]
  go_ret
  exact ⟨rfl, HB8.out⟩
end
end Go.Proofs.YthfcjfhaoabdeaaGreatDoor

/-
  Rq2: Which rows commits leave, whatever order they stand in (ReloadReplays).
-/
set_option linter.unusedVariables false
set_option linter.unusedSimpArgs false
namespace Go.Proofs.YthfcjfhaoabdeaaGreatDoor
open Go.RowKit Go.Shelf
open ML (RS Rr rapp rr_empty sameRows_any)
attribute [local go_sem] Oper.semAt_some

def qzR : Array Value := #[.string .empty, .string .empty, .int .i64 0]
theorem qzR_one : qzR.all (·.oneCell') = true := Array.all_eq_true_iff_forall_mem.2 (fun v hv => by simp [qzR] at hv; rcases hv with rfl | rfl <;> rfl)
theorem qbel_sets {B b : Nat} {a : World} (hb : B ≤ b) : ∀ (vs : List Value) (o : Nat) (w : World), Below B a w → Below B a (w.setCells b o vs)
  | [], _, _, h => h
  | v :: r, o, w, h => qbel_sets hb r (o + 1) _ (h.setCell (by exact hb) v)
theorem qthere_part {w : World} {g n o k : Nat} (h : w.there g 0 n) (hk : o + k ≤ n) : w.there g o k := fun j hj => by
  have := h (o + j) (by omega)
  rwa [Nat.zero_add] at this
def resR : Option (List ML.Ro × Int) → List ML.Ro × Int × Int
  | none => ([], 0, 165)
  | some p => (p.1, p.2, 0)
theorem RpO.form {w w' : World} {o : Option (List ML.Ro × Int)} {e : Ending} (h : RpO w w' o e) : ∃ al cl, e = .returned (.tuple #[.slice al (resR o).1.length cl, .int .i64 (resR o).2.1, .int .i64 (resR o).2.2]) ∧ RS w' al (resR o).1.length cl (resR o).1 ∧ (0 < (resR o).1.length → ∃ g, al = some ⟨g, 0, none⟩ ∧ w.heap.size ≤ g ∧ w'.there g 0 ((resR o).1.length * 3)) := by
  cases o with
  | none => exact ⟨none, 0, h, ⟨rfl, Nat.le_refl _, Nat.zero_le _, fun q => absurd q (Nat.lt_irrefl 0)⟩, fun q => absurd q (Nat.lt_irrefl 0)⟩
  | some p =>
    obtain ⟨v, rfl, al, cl, rfl, h1, h2⟩ := h
    exact ⟨al, cl, rfl, h1, h2⟩
theorem RrO.form {w w' : World} {o : Option (List ML.Ro × Int)} {e : Ending} (h : RrO w w' o e) : ∃ al cl, e = .returned (.tuple #[.slice al (resR o).1.length cl, .int .i64 (resR o).2.1, .int .i64 (resR o).2.2]) ∧ RS w' al (resR o).1.length cl (resR o).1 := by
  cases o with
  | none => exact ⟨none, 0, h, ⟨rfl, Nat.le_refl _, Nat.zero_le _, fun q => absurd q (Nat.lt_irrefl 0)⟩⟩
  | some p =>
    obtain ⟨v, rfl, hr⟩ := h
    obtain ⟨al, cl, rfl, h1⟩ := hr.seq
    exact ⟨al, cl, rfl, h1⟩
section
set_option maxHeartbeats 16000000
set_option maxRecDepth 100000
variable {w : World} {ao bo : Option Addr} {len cap lb cb : Nat} {L : List ML.Ro} {cs : List Kc}
theorem reloadReplays_walk (hg : Gl w.heap.size w) (hE : Ee w) (hL : RS w ao len cap L) (hn : ao = none → cap = 0) (oL : ∀ r ∈ L, r.ok) (hl : len ≤ 1000000) (hI : Ins w bo lb cb cs) (hnI : ∀ c ∈ cs, c.ao = none → c.cap = 0) (frm : Int) :
    Calls Tryz.prog 3 #[.slice ao len cap, .int .i64 frm, .slice bo lb cb] w fun e w' => e = .returned (.bool true) ∧ Below w.heap.size w w' := by
  obtain rfl := hL.1
  have hll : cs.length = lb := hI.ks.1
  have hlb := hI.few
  have hpos : 0 < w.heap.size := by
    rcases Nat.eq_zero_or_pos w.heap.size with h0 | h
    · unfold Ee at hE; simp [World.cell?, h0] at hE
    · exact h
  have HS := ehide3 (shown16_any hg hE)
  have HE := ehide3 hE
  have HL := ehide3 hL
  have HN := ehide3 hn
  have HOL := ehide3 oL
  have HI := ehide3 hI
  have HNI := ehide3 hnI
  have SVA := ehide3 (ML.RS.sv hL hn)
  clear hg hE hL hn oL hI hnI
  go_enter Tryz.func3, Tryz.ntmps3
  go_wp2_with fail
  refine HS.out.mono ?_
  rintro e w1 ⟨rfl, hw1⟩
  have B1 := ehide3 hw1
  clear hw1 HS
  obtain ⟨v2, w2, hrun2, hown2, hB2, hs2, _⟩ := rapp (w := w1.alloc (.cells #[] 33)) (rr_empty w1) (by simp) ((SVA.out.keep B1.out).keep (ML.below1 w1 _)) (by simp; omega)
  rw [List.nil_append] at hown2
  have hb2 : Below w1.heap.size w1 w2 := hB2 _ _ (Nat.le_refl _) (ML.below1 w1 _)
  have B2 := ehide3 (B1.out.trans (hb2.mono B1.out.size))
  have hz2 := B2.out.size
  obtain ⟨ax, cx, rfl, hrx⟩ := hown2.seq
  have HX := ehide3 hrx
  have HR2 := ehide3 hrun2
  clear hrun2 hown2 hB2 hs2 hb2 hrx SVA
  go_wp2_with (at_builtin; refine Hid.out ?_)
  refine ehide3 ?_
  refine Lib.wpList_append_run _ rfl _ _ _ _ rfl _ _ rfl rfl _ _ HR2.out ?_
  go_frame
  clear HR2
  go_wp2_with fail
  go_loopw [9, 10] (fun v i wr => ∃ k : Nat, k ≤ lb ∧ i = .int .i64 (k : Nat) ∧ Hid (Cy w2 wr v cs k)) (fun _ i _ => lb - (intOf i).toNat)
  case atStart => exact ⟨0, by omega, rfl, ehide3 ⟨[], kr_nil _ _, rfl, (fun c hc => (nomatch hc)), Below.refl _ _⟩⟩
  case round =>
    obtain ⟨k, hk, rfl, HC⟩ := hrel
    have HBr : Hid (Below w.heap.size w wr) := ehide3 (by obtain ⟨_, _, _, _, h⟩ := HC.out; exact B2.out.trans (h.mono hz2))
    by_cases hlt : k < lb
    · obtain ⟨x, hx⟩ := some_at hll hlt
      have hxm := List.mem_of_getElem? hx
      obtain ⟨g, off, rfl, hgl, hc⟩ := KS.at HI.out.ks (by omega)
      have c0 := (HBr.out.cell (p := ⟨g, off + k * 2, none⟩) hgl).trans (hc k x hx).1
      have c1 := (HBr.out.cell (p := ⟨g, off + k * 2 + 1, none⟩) hgl).trans (hc k x hx).2
      have hbz := HBr.out.size
      have c2 : ((wr.alloc (.cells #[.int .i64 x.t, .slice x.ao x.len x.cap] 27)).alloc (.cells #[] 37)).cell? ⟨g, off + k * 2 + 1, none⟩ = some (.slice x.ao x.len x.cap) := by
        rw [World.cell?_alloc_lt _ _ ⟨g, off + k * 2 + 1, none⟩ (by simp; omega), World.cell?_alloc_lt _ _ ⟨g, off + k * 2 + 1, none⟩ (by show g < _; omega)]; exact c1
      have d1 : (k : Int) < (lb : Int) := by omega
      have hcl : x.ws.length ≤ 10000000 := by
        have h1 : cnt (cs.take (k + 1)) = cnt (cs.take k) + x.ws.length := by rw [ML.take_snoc hx, cnt_append]; simp [cnt]
        have h2 := cnt_take cs (k + 1)
        have := HI.out.cnt
        omega
      obtain ⟨a', c', Wc, hrun1, kc1, hbc, vy, Wf, hrun2, hCy⟩ := Cy.round HC.out hx (by omega) hcl (WS.sv ((HI.out.ws x hxm).keep HBr.out) (HNI.out x hxm))
      have m0 : Wc.cell? ⟨wr.heap.size, 0, none⟩ = some (.int .i64 x.t) := (Go.Joins.cell_of_block kc1 0).trans rfl
      have m1 : Wc.cell? ⟨wr.heap.size, 1, none⟩ = some (.slice x.ao x.len x.cap) := (Go.Joins.cell_of_block kc1 1).trans rfl
      have mf1 := Go.Joins.unfrozen_of_block kc1 1
      have HRUN1 := ehide3 hrun1
      have HRUN2 := ehide3 hrun2
      have NX := ehide3 hCy
      clear hc hx hxm hrun1 hrun2 hCy kc1 hbc HC hcl
      generalize x.ws.length = xn at *
      go_wp2_with (at_builtin; refine Hid.out ?_)
      refine ehide3 ?_
      refine Lib.wpList_append_run _ rfl _ _ _ _ rfl _ _ rfl rfl _ _ HRUN1.out ?_
      go_frame
      go_wp2_with (at_builtin; refine Hid.out ?_)
      refine ehide3 ?_
      refine Lib.wpList_append_run _ rfl _ _ _ _ rfl _ _ rfl rfl _ _ HRUN2.out ?_
      go_frame
      go_wp2_with fail
      go_roundw
      case rel => exact ⟨k + 1, by omega, by go_num, NX⟩
      case measure => simp [intOf]; omega
    · have e1 : k = lb := by omega
      subst e1
      have d1 : ¬ (k : Int) < (k : Int) := by omega
      obtain ⟨ys, hK, hm0, hW, hb5⟩ := HC.out
      have hm : ys.map strp = cs.map strp := by rw [hm0, ← hll, List.take_length]
      have hyl : ys.length = k := by have := congrArg List.length hm; simp only [List.length_map] at this; omega
      obtain ⟨ay, cy, ev, hks⟩ := hK.seq
      subst ev
      rw [hyl] at hks
      rename World => w5
      have hmem : ∀ c ∈ ys, ∃ c' ∈ cs, c'.ws = c.ws := fun c hc => by
        have h1 : strp c ∈ cs.map strp := by rw [← hm]; exact List.mem_map.2 ⟨c, hc, rfl⟩
        obtain ⟨c', h2, h3⟩ := List.mem_map.1 h1
        have h4 := congrArg Kc.ws h3
        exact ⟨c', h2, h4⟩
      have hIy : Ins w5 ay k cy ys := ⟨hks, fun c hc => by
        obtain ⟨ao', cap', e', h'⟩ := (hW c hc).seq
        injection e' with e1 e2 e3
        rw [e1, e2, e3]
        exact h', fun c hc x hx => by
        obtain ⟨c', h2, h3⟩ := hmem c hc
        exact HI.out.ok c' h2 x (by rw [h3]; exact hx), hlb, by
        rw [← cnt_strp, hm, cnt_strp]
        exact HI.out.cnt⟩
      have HIY := ehide3 hIy
      have HM := ehide3 hm
      have HRQ := ehide3 (rplD_same (L := L) (frm := frm) hm)
      have HB5 := ehide3 hb5
      have HBw5 := ehide3 (B2.out.trans (hb5.mono hz2))
      have hz5 := HBw5.out.size
      have HX5 := ehide3 (HX.out.keep hb5)
      rw [hyl]
      clear hK hm0 hW hb5 hks hmem hIy hm HC HBr HX
      obtain ⟨R, hR⟩ : ∃ R, R = resR (rplD L frm cs) := ⟨_, rfl⟩
      have HRR := ehide3 hR
      clear hR
      go_wp2_with fail
      go_loopw [12] (fun i wr => ∃ j : Nat, j ≤ 2 ∧ i = .int .i64 (j : Nat) ∧ Hid (Below w5.heap.size w5 wr)) (fun i _ => 2 - (intOf i).toNat)
      case atStart => exact ⟨0, by omega, rfl, ehide3 (Below.refl _ _)⟩
      case round =>
        obtain ⟨j, hj, rfl, HB⟩ := hrel
        have hsz := HB.out.size
        have HBw := ehide3 (HBw5.out.trans (HB.out.mono hz5))
        by_cases hlt2 : j < 2
        · have d2 : (j : Int) < 2 := by omega
          have HP := ehide3 (replay_any (w := wr) (HX5.out.keep HB.out) HOL.out hl (HIY.out.keep HB.out) frm ((HBw.out.cell (p := ⟨0, 0, none⟩) hpos).trans HE.out))
          rw [HRQ.out] at HP
          go_wp2_with fail
          refine HP.out.mono ?_
          rintro e w6 ⟨h6, hb6⟩
          obtain ⟨al, cl, rfl, hrl, htl⟩ := h6.form
          have HBw6 := ehide3 (HBw.out.trans (hb6.mono HBw.out.size))
          have HB6 := ehide3 (HB.out.trans (hb6.mono hsz))
          have HD := ehide3 (rreplay_any (w := w6) (HL.out.keep HBw6.out) HN.out hl (HI.out.keep HBw6.out) frm)
          rw [← HRR.out] at hrl htl ⊢
          have HRL := ehide3 hrl
          have HTL := ehide3 htl
          have hlm := hrl.2.2.1
          unfold maxLen at hlm
          have hlc := hrl.2.1
          clear h6 hb6 hrl htl HP
          go_wp2_with fail
          refine HD.out.mono ?_
          rintro e w7 ⟨h7, hb7⟩
          obtain ⟨a7, c7, rfl, hs7⟩ := h7.form
          rw [← HRR.out] at hs7 ⊢
          have HSAME := ehide3 (sameRows_any (HRL.out.keep hb7) hs7)
          have HB7 := ehide3 (HB6.out.trans (hb7.mono HB6.out.size))
          have HTH : Hid (0 < R.1.length → ∃ g, al = some ⟨g, 0, none⟩ ∧ w5.heap.size ≤ g ∧ w7.there g 0 (R.1.length * 3)) := ehide3 (fun q => by
            obtain ⟨g, e, hg, ht⟩ := HTL.out q
            refine ⟨g, e, by omega, fun i hi => ?_⟩
            obtain ⟨t1, t2⟩ := ht i hi
            have hlt : g < w6.heap.size := by
              obtain ⟨y, hy⟩ := Option.isSome_iff_exists.1 t1
              exact World.block_lt_of_cell? w6 _ hy
            exact ⟨by rw [hb7.cell (p := ⟨g, 0 + i, none⟩) hlt]; exact t1, by rw [hb7.frozen (p := ⟨g, 0 + i, none⟩) hlt]; exact t2⟩)
          clear h7 hb7 hs7 HD HRL HTL HB6 HBw6
          generalize R.1.length = n at *
          generalize R.2.1 = rt at *
          generalize R.2.2 = re at *
          go_wp2_with fail
          refine HSAME.out.mono ?_
          rintro e w8 ⟨rfl, q, rfl⟩
          clear HSAME
          go_wp2_with fail
          go_loopw [20] (fun i wr => ∃ m : Nat, m ≤ n ∧ i = .int .i64 (m : Nat) ∧ Hid (Below w5.heap.size w5 wr ∧ (0 < n → ∃ g, al = some ⟨g, 0, none⟩ ∧ w5.heap.size ≤ g ∧ wr.there g 0 (n * 3)))) (fun i _ => n - (intOf i).toNat)
          case atStart => exact ⟨0, by omega, rfl, ehide3 ⟨below_drewN HB7.out _, HTH.out⟩⟩
          case round =>
            obtain ⟨m, hm, rfl, HK⟩ := hrel
            clear HTH HB7
            by_cases hlt3 : m < n
            · obtain ⟨g, rfl, hg4, hth⟩ := HK.out.2 (by omega)
              have d3 : (m : Int) < (n : Int) := by omega
              have TH := ehide3 (qthere_part (o := m * 3) (k := 3) hth (by omega))
              have SZ : Hid ((Tryz.prog.info? 33).map (·.size) = some qzR.size) := ehide3 (by kernel_rfl)
              obtain ⟨W2, hW2⟩ : ∃ W2, W2 = wr.setCells g (m * 3) qzR.toList := ⟨_, rfl⟩
              have HW2 := ehide3 hW2
              have NX : Hid (Below w5.heap.size w5 W2 ∧ (0 < n → ∃ g', (some ⟨g, 0, none⟩ : Option Addr) = some ⟨g', 0, none⟩ ∧ w5.heap.size ≤ g' ∧ W2.there g' 0 (n * 3))) := ehide3 ⟨by rw [hW2]; exact qbel_sets hg4 _ _ _ HK.out.1, fun _ => ⟨g, rfl, hg4, by rw [hW2]; exact World.there_setCells hth _ _ _⟩⟩
              clear hW2 hth HK
              go_wp2_with (first
                | (refine wpList_store_mid rfl 33 (Operand.tmp 82) (Operand.tmp 81) rfl g (m * 3) qzR rfl rfl ?_ ?_ qzR_one ?_
                   · exact TH.out
                   · exact SZ.out
                   rw [← HW2.out]))
              go_wp2_with fail
              go_roundw
              case rel => exact ⟨m + 1, by omega, by go_num, NX⟩
              case measure => simp [intOf]; omega
            · have d3 : ¬ (m : Int) < (n : Int) := by omega
              have HBn := ehide3 HK.out.1
              clear HK
              go_wp2_with fail
              go_roundw
              case rel => exact ⟨j + 1, by omega, by go_num, HBn⟩
              case measure => simp [intOf]; omega
        · have e2 : j = 2 := by omega
          subst e2
          have HS1 := ehide3 (sameRows_any (HX5.out.keep HB.out) (HL.out.keep HBw.out))
          go_wp2_with fail
          refine HS1.out.mono ?_
          rintro e w8 ⟨rfl, q8, rfl⟩
          have HB8 := ehide3 (below_drewN HB.out q8)
          clear HS1
          go_wp2_with fail
          go_loopw [21, 22] (fun s i wr => ∃ m : Nat, m ≤ k ∧ s = .bool true ∧ i = .int .i64 (m : Nat) ∧ Hid (Below w5.heap.size w5 wr)) (fun _ i _ => k - (intOf i).toNat)
          case atStart => exact ⟨0, by omega, rfl, rfl, HB8⟩
          case round =>
            clear HB8 HB HBw hsz
            obtain ⟨m, hm, rfl, rfl, HB⟩ := hrel
            have hsz := HB.out.size
            have HBw := ehide3 (HBw5.out.trans (HB.out.mono hz5))
            by_cases hlt3 : m < k
            · obtain ⟨x, hx⟩ := some_at hll hlt3
              obtain ⟨y, hy⟩ := some_at hyl hlt3
              obtain ⟨g, off, rfl, hgl, hc⟩ := KS.at HI.out.ks (by omega)
              obtain ⟨g2, off2, rfl, hgl2, hc2⟩ := KS.at HIY.out.ks (by omega)
              have c0 := (HBw.out.cell (p := ⟨g, off + m * 2, none⟩) hgl).trans (hc m x hx).1
              have c1 := (HBw.out.cell (p := ⟨g, off + m * 2 + 1, none⟩) hgl).trans (hc m x hx).2
              have y0 := (HB.out.cell (p := ⟨g2, off2 + m * 2, none⟩) hgl2).trans (hc2 m y hy).1
              have y1 := (HB.out.cell (p := ⟨g2, off2 + m * 2 + 1, none⟩) hgl2).trans (hc2 m y hy).2
              have d3 : (m : Int) < (k : Int) := by omega
              have hst : strp y = strp x := by
                have h1 : (ys.map strp)[m]? = some (strp y) := by rw [List.getElem?_map, hy]; rfl
                have h2 : (cs.map strp)[m]? = some (strp x) := by rw [List.getElem?_map, hx]; rfl
                rw [HM.out, h2] at h1
                exact (Option.some.inj h1).symm
              have ht : y.t = x.t := (show (strp y).t = (strp x).t from by rw [hst])
              have hws : y.ws = x.ws := (show (strp y).ws = (strp x).ws from by rw [hst])
              have HSC : Hid (∀ u, (∃ q, u = wr.drewN q) → Calls Tryz.prog 8 #[.agg #[.int .i64 x.t, .slice x.ao x.len x.cap], .agg #[.int .i64 x.t, .slice y.ao y.len y.cap]] u fun e w' => e = .returned (.bool true) ∧ Hid (Below w5.heap.size w5 w')) := ehide3 (fun u hu => by
                obtain ⟨q, rfl⟩ := hu
                have hyw := HIY.out.ws y (List.mem_of_getElem? hy)
                rw [hws] at hyw
                refine (sameCommit_any (w := wr.drewN q) x.t ((HI.out.ws x (List.mem_of_getElem? hx)).keep (below_drewN HBw.out q)) (hyw.keep (below_drewN HB.out q))).mono ?_
                rintro e w' ⟨rfl, hb⟩
                exact ⟨rfl, ehide3 ((below_drewN HB.out q).trans (hb.mono hsz))⟩)
              rw [ht] at y0
              clear hc hc2 hx hy hst ht hws
              go_wp2_with fail
              go_region_with (go_at_call 8; refine (HSC.out _ (by first | exact ⟨_, rfl⟩ | exact ⟨0, rfl⟩)).mono ?_; rintro e w9 ⟨rfl, HB9⟩)
              all_goals
                go_wp2_with fail
                go_roundw
                case rel => exact ⟨m + 1, by omega, rfl, by go_num, HB9⟩
                case measure => simp [intOf]; omega
            · have d3 : ¬ (m : Int) < (k : Int) := by omega
              go_wp2
              go_ret
              exact ⟨rfl, HBw.out⟩
end
end Go.Proofs.YthfcjfhaoabdeaaGreatDoor
