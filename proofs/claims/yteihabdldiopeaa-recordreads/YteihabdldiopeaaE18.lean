/-
  How the document reads rows and what is gone.
-/
import Derived.Test.YteihabdldiopeaaE17b
import Derived.Test.YteihabdldiopeaaE17c
import Derived.Test.YteihabdldiopeaaE16b
set_option linter.unusedVariables false
set_option linter.unusedSimpArgs false
namespace Go.Proofs.Yteihabdldiopeaa
open Go.RowKit Go.Maps

/-- Something is laid into a block elsewhere. -/
theorem Rr.laid {w1 W : World} {r n : Nat} {ao : Option Addr} {len cap : Nat} {xs : List Int} {s : Rs} (h : Rr w1 r ao len cap xs s) (hn : n ≠ r) {cs : Array Value} {t : TypeId} (z : w1.heap[n]? = some (.cells cs t (0, 0))) (hc : ∀ (i : Nat) (m : Int), cs[i]? ≠ some (Value.int .u8 m)) (hW : w1.grownBy W (some n)) : Rr W r ao len cap xs s := by
  have hl := h.lt
  obtain ⟨a, b, h1, h2, h3⟩ := h
  exact ⟨a, b, (hW.block r hl (by simp; omega)).trans h1, h2.off2 z hc hW, h3⟩
theorem below_grown2 {w W W' : World} {r : Nat} (h : Below w.heap.size w W) (g : W.grownBy W' (some r)) (hr : w.heap.size ≤ r) : Below w.heap.size w W' := below_of_grown h g hr

theorem verd_ok {s : Rs} {len : Nat} {b : Bool} {v : Int × Int} (h : v = verd s len b) (h2 : v.2 = 0) : v.1 = 0 := by
  subst h
  revert h2
  unfold verd
  cases s with
  | bad p => intro h; exact absurd h (by show ¬ (61 : Int) = 0; decide)
  | «at» n =>
    simp only []
    split
    · intro h; exact absurd h (by show ¬ (61 : Int) = 0; decide)
    · split
      · intro _; rfl
      · intro _; rfl

section
variable {w : World} {ao : Option Addr} {len cap : Nat} {xs : List Int}
set_option maxRecDepth 100000
set_option maxHeartbeats 2000000

theorem RRow_any (h : Sl w ao len cap xs) :
    Calls Try.prog 29 #[.slice ao len cap] w fun e w' => e = .returned (.tuple #[(oR xs).v, .int .i64 (vR xs).1, .int .i64 (vR xs).2]) ∧ Below w.heap.size w w' := by
  have hx := h.1
  have hA : Below w.heap.size w (w.alloc (.cells #[.string ⟨#[]⟩, .string ⟨#[]⟩, .int .i64 0] 36)) := (Below.refl _ _).alloc (Nat.le_refl _) _
  have k0 := heap_alloc_new w (.cells #[.string ⟨#[]⟩, .string ⟨#[]⟩, .int .i64 0] 36)
  have hz : (w.alloc (.cells #[.string ⟨#[]⟩, .string ⟨#[]⟩, .int .i64 0] 36)).heap.size = w.heap.size + 1 := by simp
  have HB := begin_any 82 (h.below hA)
  rw [hz] at HB
  obtain ⟨S, eS⟩ : ∃ S, S = sC xs 82 := ⟨_, rfl⟩
  obtain ⟨R1, e1⟩ : ∃ R, R = rtxt xs 16 S := ⟨_, rfl⟩
  obtain ⟨R2, e2⟩ : ∃ R, R = rtxt xs 64 R1.2 := ⟨_, rfl⟩
  obtain ⟨R3, e3⟩ : ∃ R, R = rnum xs 1099511627775 R2.2 := ⟨_, rfl⟩
  have hPP : pR xs = (⟨R1.1, R2.1, R3.1⟩, R3.2) := by rw [e3, e2, e1, eS]; rfl
  obtain ⟨vd, evd⟩ : ∃ vd, vd = vR xs := ⟨_, rfl⟩
  have hvd : vd = verd R3.2 len (rightR ⟨R1.1, R2.1, R3.1⟩) := by rw [evd]; unfold vR; rw [hPP, hx]
  obtain ⟨ox, eox⟩ : ∃ ox, ox = oR xs := ⟨_, rfl⟩
  have hox : ox = if vd.2 = 0 then ⟨R1.1, R2.1, R3.1⟩ else ⟨⟨#[]⟩, ⟨#[]⟩, 0⟩ := by rw [eox, evd]; unfold oR; rw [hPP]
  rw [← evd, ← eox]
  rw [← eS] at HB
  have HVD := hide3 hvd
  have HOX := hide3 hox
  have HB2 := hide3 HB
  have E1 := hide3 e1
  have E2 := hide3 e2
  have E3 := hide3 e3
  clear HB eS evd eox hvd hox hPP h e1 e2 e3
  go_enter Try.func29, Try.ntmps29
  go_wp2_with fail
  refine HB2.out.mono ?_
  rintro e w1 ⟨rfl, h1, hb1⟩
  have hB1 : Below w.heap.size w w1 := hA.trans (hb1.mono (by omega))
  have z1 := (hb1.block w.heap.size (by omega)).trans k0
  have hl1 := h1.lt
  have HC1 := rtext_any 16 h1 (by omega) (by omega)
  rw [← E1.out] at HC1
  have HD1 := hide3 HC1
  clear HC1 HB2 k0 hA hb1
  go_wp2_with fail
  refine HD1.out.mono ?_
  rintro e u1 ⟨rfl, g1, t1⟩
  have hB2 : Below w.heap.size w (u1.alloc (.cells #[.string R1.1, .string ⟨#[]⟩, .int .i64 0] 36)) := (below_grown2 hB1 t1 (by omega)).alloc (by have := (below_grown2 hB1 t1 (by omega)).size; omega) _
  have z2 := (blk_alloc' u1 (.cells #[.string R1.1, .string ⟨#[]⟩, .int .i64 0] 36) w.heap.size (by have := g1.lt; omega)).trans (res3 z1 t1 (by omega))
  have xb2 := heap_alloc_new u1 (.cells #[.string R1.1, .string ⟨#[]⟩, .int .i64 0] 36)
  have h2 := g1.keep ((Below.refl _ _).alloc (Nat.le_refl _) (.cells #[.string R1.1, .string ⟨#[]⟩, .int .i64 0] 36))
  have hxn : u1.heap.size ≠ w.heap.size + 1 := by have := g1.lt; omega
  have hxw : w.heap.size < u1.heap.size := by have := g1.lt; omega
  clear hB1 z1 t1 g1 h1
  have HC2 := rtext_any 64 h2 (by omega) (by omega)
  rw [← E2.out] at HC2
  have HD2 := hide3 HC2
  clear HC2 HD1
  go_wp2_with fail
  refine HD2.out.mono ?_
  rintro e u2 ⟨rfl, g2, t2⟩
  have xq2 := res3 xb2 t2 hxn
  have zq2 := res3 z2 t2 (by omega)
  have bq2 := below_grown2 hB2 t2 (by omega)
  have xc2 : u2.cell? ⟨u1.heap.size, 1, none⟩ = some (.string ⟨#[]⟩) := by rw [Go.Joins.cell_of_block xq2]; rfl
  have xf2 := Go.Joins.unfrozen_of_block xq2 1
  have h3 := g2.laid hxn xq2 (no3 (by simp) (by simp) (by simp)) (grown_set u2 u1.heap.size 1 (.string R2.1))
  have xb3 : (u2.setCell ⟨u1.heap.size, 1, none⟩ (.string R2.1)).heap[u1.heap.size]? = some (.cells #[.string R1.1, .string R2.1, .int .i64 0] 36 (0, 0)) := (Go.Joins.block_setCell xq2 _).trans rfl
  have z3 : (u2.setCell ⟨u1.heap.size, 1, none⟩ (.string R2.1)).heap[w.heap.size]? = _ := (Below.heap_setCell _ _ _ _ (by simp; omega)).trans zq2
  have hB3 := bq2.setCell (p := ⟨u1.heap.size, 1, none⟩) (by simp; omega) (.string R2.1)
  clear xq2 zq2 bq2 xb2 z2 hB2 t2 g2 h2
  have HC3 := rnumber_any 1099511627775 h3 (by omega) (by omega)
  rw [← E3.out] at HC3
  have HD3 := hide3 HC3
  clear HC3 HD2
  go_wp2_with fail
  refine HD3.out.mono ?_
  rintro e u3 ⟨rfl, g3, t3⟩
  have xq3 := res3 xb3 t3 hxn
  have zq3 := res3 z3 t3 (by omega)
  have bq3 := below_grown2 hB3 t3 (by omega)
  have xc3 : u3.cell? ⟨u1.heap.size, 2, none⟩ = some (.int .i64 0) := by rw [Go.Joins.cell_of_block xq3]; rfl
  have xf3 := Go.Joins.unfrozen_of_block xq3 2
  have h4 := g3.laid hxn xq3 (no3 (by simp) (by simp) (by simp)) (grown_set u3 u1.heap.size 2 (.int .i64 R3.1))
  have xb4 : (u3.setCell ⟨u1.heap.size, 2, none⟩ (.int .i64 R3.1)).heap[u1.heap.size]? = some (.cells #[.string R1.1, .string R2.1, .int .i64 R3.1] 36 (0, 0)) := (Go.Joins.block_setCell xq3 _).trans rfl
  have z4 : (u3.setCell ⟨u1.heap.size, 2, none⟩ (.int .i64 R3.1)).heap[w.heap.size]? = _ := (Below.heap_setCell _ _ _ _ (by simp; omega)).trans zq3
  have hB4 := bq3.setCell (p := ⟨u1.heap.size, 2, none⟩) (by simp; omega) (.int .i64 R3.1)
  clear xq3 zq3 bq3 xb3 z3 hB3 t3 g3 h3
  have HRt := refRightRow_any (u3.setCell ⟨u1.heap.size, 2, none⟩ (.int .i64 R3.1)) ⟨R1.1, R2.1, R3.1⟩
  have HRt2 := hide3 HRt
  have y0 : (u3.setCell ⟨u1.heap.size, 2, none⟩ (.int .i64 R3.1)).cell? ⟨u1.heap.size, 0, none⟩ = some (.string R1.1) := by rw [Go.Joins.cell_of_block xb4]; rfl
  have y1 : (u3.setCell ⟨u1.heap.size, 2, none⟩ (.int .i64 R3.1)).cell? ⟨u1.heap.size, 1, none⟩ = some (.string R2.1) := by rw [Go.Joins.cell_of_block xb4]; rfl
  have y2 : (u3.setCell ⟨u1.heap.size, 2, none⟩ (.int .i64 R3.1)).cell? ⟨u1.heap.size, 2, none⟩ = some (.int .i64 R3.1) := by rw [Go.Joins.cell_of_block xb4]; rfl
  clear HRt HD3
  go_wp2_with fail
  refine HRt2.out.mono ?_
  rintro e w5 ⟨rfl, hb5⟩
  have h5 := h4.keep hb5
  have hsz5 := h4.lt
  have xlt : u1.heap.size < (u3.setCell ⟨u1.heap.size, 2, none⟩ (.int .i64 R3.1)).heap.size := (Array.getElem?_eq_some_iff.1 xb4).1
  have hBW := hB4.size
  have xb5 := (hb5.block u1.heap.size xlt).trans xb4
  have z5 := (hb5.block w.heap.size (by omega)).trans z4
  have hB5 := hB4.trans (hb5.mono hBW)
  have HE := rend_any (rightR ⟨R1.1, R2.1, R3.1⟩) h5
  rw [← HVD.out] at HE
  have HE2 := hide3 HE
  clear HE HRt2 hb5 h4 xb4 z4 hB4 y0 y1 y2
  go_wp2_with fail
  refine HE2.out.mono ?_
  rintro e w6 ⟨rfl, t6⟩
  have xb6 := res3 xb5 t6 hxn
  have z6 := res3 z5 t6 (by omega)
  have hB6 := below_grown2 hB5 t6 (by omega)
  clear HE2 xb5 z5 hB5 t6 h5
  have y0 : w6.cell? ⟨u1.heap.size, 0, none⟩ = some (.string R1.1) := by rw [Go.Joins.cell_of_block xb6]; rfl
  have m0 : w6.cell? ⟨w.heap.size, 0, none⟩ = some (.string ⟨#[]⟩) := by rw [Go.Joins.cell_of_block z6]; rfl
  have mf0 := Go.Joins.unfrozen_of_block z6 0
  have y1 : w6.cell? ⟨u1.heap.size, 1, none⟩ = some (.string R2.1) := by rw [Go.Joins.cell_of_block xb6]; rfl
  have m1 : w6.cell? ⟨w.heap.size, 1, none⟩ = some (.string ⟨#[]⟩) := by rw [Go.Joins.cell_of_block z6]; rfl
  have mf1 := Go.Joins.unfrozen_of_block z6 1
  have y2 : w6.cell? ⟨u1.heap.size, 2, none⟩ = some (.int .i64 R3.1) := by rw [Go.Joins.cell_of_block xb6]; rfl
  have m2 : w6.cell? ⟨w.heap.size, 2, none⟩ = some (.int .i64 0) := by rw [Go.Joins.cell_of_block z6]; rfl
  have mf2 := Go.Joins.unfrozen_of_block z6 2
  by_cases hv : vd.2 = 0
  case neg =>
    have eo : ox = ⟨⟨#[]⟩, ⟨#[]⟩, 0⟩ := HOX.out.trans (if_neg hv)
    subst eo
    have hv1 : (vd.2 == 0) = false := by simpa using hv
    have hv2 : (vd.2 != 0) = true := by simpa using hv
    have zW : (((w6.setCell ⟨w.heap.size, 0, none⟩ (.string ⟨#[]⟩)).setCell ⟨w.heap.size, 1, none⟩ (.string ⟨#[]⟩)).setCell ⟨w.heap.size, 2, none⟩ (.int .i64 0)).heap[w.heap.size]? = some (.cells #[.string ⟨#[]⟩, .string ⟨#[]⟩, .int .i64 0] 36 (0, 0)) := blk_set3 z6 _ _ _
    have BW : Below w.heap.size w (((w6.setCell ⟨w.heap.size, 0, none⟩ (.string ⟨#[]⟩)).setCell ⟨w.heap.size, 1, none⟩ (.string ⟨#[]⟩)).setCell ⟨w.heap.size, 2, none⟩ (.int .i64 0)) := (((hB6.setCell (p := ⟨w.heap.size, 0, none⟩) (by simp) _).setCell (p := ⟨w.heap.size, 1, none⟩) (by simp) _).setCell (p := ⟨w.heap.size, 2, none⟩) (by simp) _)
    go_wp2
    generalize (((w6.setCell ⟨w.heap.size, 0, none⟩ (.string ⟨#[]⟩)).setCell ⟨w.heap.size, 1, none⟩ (.string ⟨#[]⟩)).setCell ⟨w.heap.size, 2, none⟩ (.int .i64 0)) = W at zW BW ⊢
    have yy0 : W.cell? ⟨w.heap.size, 0, none⟩ = some (.string ⟨#[]⟩) := (by rw [Go.Joins.cell_of_block zW]; rfl)
    have yy1 : W.cell? ⟨w.heap.size, 1, none⟩ = some (.string ⟨#[]⟩) := (by rw [Go.Joins.cell_of_block zW]; rfl)
    have yy2 : W.cell? ⟨w.heap.size, 2, none⟩ = some (.int .i64 0) := (by rw [Go.Joins.cell_of_block zW]; rfl)
    refine bodyPost_ret (v := .tuple #[.agg #[.string ⟨#[]⟩, .string ⟨#[]⟩, .int .i64 0], .int .i64 vd.1, .int .i64 vd.2]) (by simp [results, Try.results29, go_sem, yy0, yy1, yy2]) rfl ⟨rfl, BW⟩
  have eo : ox = ⟨R1.1, R2.1, R3.1⟩ := HOX.out.trans (if_pos hv)
  subst eo
  have hv1 : vd.1 = 0 := verd_ok HVD.out hv
  have zW : (((w6.setCell ⟨w.heap.size, 0, none⟩ (.string R1.1)).setCell ⟨w.heap.size, 1, none⟩ (.string R2.1)).setCell ⟨w.heap.size, 2, none⟩ (.int .i64 R3.1)).heap[w.heap.size]? = some (.cells #[.string R1.1, .string R2.1, .int .i64 R3.1] 36 (0, 0)) := blk_set3 z6 _ _ _
  have BW : Below w.heap.size w (((w6.setCell ⟨w.heap.size, 0, none⟩ (.string R1.1)).setCell ⟨w.heap.size, 1, none⟩ (.string R2.1)).setCell ⟨w.heap.size, 2, none⟩ (.int .i64 R3.1)) := (((hB6.setCell (p := ⟨w.heap.size, 0, none⟩) (by simp) _).setCell (p := ⟨w.heap.size, 1, none⟩) (by simp) _).setCell (p := ⟨w.heap.size, 2, none⟩) (by simp) _)
  go_wp2
  generalize (((w6.setCell ⟨w.heap.size, 0, none⟩ (.string R1.1)).setCell ⟨w.heap.size, 1, none⟩ (.string R2.1)).setCell ⟨w.heap.size, 2, none⟩ (.int .i64 R3.1)) = W at zW BW ⊢
  have yy0 : W.cell? ⟨w.heap.size, 0, none⟩ = some (.string R1.1) := (by rw [Go.Joins.cell_of_block zW]; rfl)
  have yy1 : W.cell? ⟨w.heap.size, 1, none⟩ = some (.string R2.1) := (by rw [Go.Joins.cell_of_block zW]; rfl)
  have yy2 : W.cell? ⟨w.heap.size, 2, none⟩ = some (.int .i64 R3.1) := (by rw [Go.Joins.cell_of_block zW]; rfl)
  refine bodyPost_ret (v := .tuple #[.agg #[.string R1.1, .string R2.1, .int .i64 R3.1], .int .i64 0, .int .i64 0]) (by simp [results, Try.results29, go_sem, yy0, yy1, yy2]) rfl ⟨by rw [hv, hv1]; rfl, BW⟩

theorem RGone_any (h : Sl w ao len cap xs) :
    Calls Try.prog 31 #[.slice ao len cap] w fun e w' => e = .returned (.tuple #[(oG xs).v, .int .i64 (vG xs).1, .int .i64 (vG xs).2]) ∧ Below w.heap.size w w' := by
  have hx := h.1
  have hA : Below w.heap.size w (w.alloc (.cells #[.string ⟨#[]⟩, .int .i64 0] 39)) := (Below.refl _ _).alloc (Nat.le_refl _) _
  have k0 := heap_alloc_new w (.cells #[.string ⟨#[]⟩, .int .i64 0] 39)
  have hz : (w.alloc (.cells #[.string ⟨#[]⟩, .int .i64 0] 39)).heap.size = w.heap.size + 1 := by simp
  have HB := begin_any 71 (h.below hA)
  rw [hz] at HB
  obtain ⟨S, eS⟩ : ∃ S, S = sC xs 71 := ⟨_, rfl⟩
  obtain ⟨R1, e1⟩ : ∃ R, R = rtxt xs 16 S := ⟨_, rfl⟩
  obtain ⟨R2, e2⟩ : ∃ R, R = rnum xs 1099511627775 R1.2 := ⟨_, rfl⟩
  have hPP : pG xs = (⟨R1.1, R2.1⟩, R2.2) := by rw [e2, e1, eS]; rfl
  obtain ⟨vd, evd⟩ : ∃ vd, vd = vG xs := ⟨_, rfl⟩
  have hvd : vd = verd R2.2 len (rightG ⟨R1.1, R2.1⟩) := by rw [evd]; unfold vG; rw [hPP, hx]
  obtain ⟨ox, eox⟩ : ∃ ox, ox = oG xs := ⟨_, rfl⟩
  have hox : ox = if vd.2 = 0 then ⟨R1.1, R2.1⟩ else ⟨⟨#[]⟩, 0⟩ := by rw [eox, evd]; unfold oG; rw [hPP]
  rw [← evd, ← eox]
  rw [← eS] at HB
  have HVD := hide3 hvd
  have HOX := hide3 hox
  have HB2 := hide3 HB
  have E1 := hide3 e1
  have E2 := hide3 e2
  clear HB eS evd eox hvd hox hPP h e1 e2
  go_enter Try.func31, Try.ntmps31
  go_wp2_with fail
  refine HB2.out.mono ?_
  rintro e w1 ⟨rfl, h1, hb1⟩
  have hB1 : Below w.heap.size w w1 := hA.trans (hb1.mono (by omega))
  have z1 := (hb1.block w.heap.size (by omega)).trans k0
  have hl1 := h1.lt
  have HC1 := rtext_any 16 h1 (by omega) (by omega)
  rw [← E1.out] at HC1
  have HD1 := hide3 HC1
  clear HC1 HB2 k0 hA hb1
  go_wp2_with fail
  refine HD1.out.mono ?_
  rintro e u1 ⟨rfl, g1, t1⟩
  have hB2 : Below w.heap.size w (u1.alloc (.cells #[.string R1.1, .int .i64 0] 39)) := (below_grown2 hB1 t1 (by omega)).alloc (by have := (below_grown2 hB1 t1 (by omega)).size; omega) _
  have z2 := (blk_alloc' u1 (.cells #[.string R1.1, .int .i64 0] 39) w.heap.size (by have := g1.lt; omega)).trans (res3 z1 t1 (by omega))
  have xb2 := heap_alloc_new u1 (.cells #[.string R1.1, .int .i64 0] 39)
  have h2 := g1.keep ((Below.refl _ _).alloc (Nat.le_refl _) (.cells #[.string R1.1, .int .i64 0] 39))
  have hxn : u1.heap.size ≠ w.heap.size + 1 := by have := g1.lt; omega
  have hxw : w.heap.size < u1.heap.size := by have := g1.lt; omega
  clear hB1 z1 t1 g1 h1
  have HC2 := rnumber_any 1099511627775 h2 (by omega) (by omega)
  rw [← E2.out] at HC2
  have HD2 := hide3 HC2
  clear HC2 HD1
  go_wp2_with fail
  refine HD2.out.mono ?_
  rintro e u2 ⟨rfl, g2, t2⟩
  have xq2 := res3 xb2 t2 hxn
  have zq2 := res3 z2 t2 (by omega)
  have bq2 := below_grown2 hB2 t2 (by omega)
  have xc2 : u2.cell? ⟨u1.heap.size, 1, none⟩ = some (.int .i64 0) := by rw [Go.Joins.cell_of_block xq2]; rfl
  have xf2 := Go.Joins.unfrozen_of_block xq2 1
  have h3 := g2.laid hxn xq2 (no2 (by simp) (by simp)) (grown_set u2 u1.heap.size 1 (.int .i64 R2.1))
  have xb3 : (u2.setCell ⟨u1.heap.size, 1, none⟩ (.int .i64 R2.1)).heap[u1.heap.size]? = some (.cells #[.string R1.1, .int .i64 R2.1] 39 (0, 0)) := (Go.Joins.block_setCell xq2 _).trans rfl
  have z3 : (u2.setCell ⟨u1.heap.size, 1, none⟩ (.int .i64 R2.1)).heap[w.heap.size]? = _ := (Below.heap_setCell _ _ _ _ (by simp; omega)).trans zq2
  have hB3 := bq2.setCell (p := ⟨u1.heap.size, 1, none⟩) (by simp; omega) (.int .i64 R2.1)
  clear xq2 zq2 bq2 xb2 z2 hB2 t2 g2 h2
  have HRt := refRightGone_any (u2.setCell ⟨u1.heap.size, 1, none⟩ (.int .i64 R2.1)) ⟨R1.1, R2.1⟩
  have HRt2 := hide3 HRt
  have y0 : (u2.setCell ⟨u1.heap.size, 1, none⟩ (.int .i64 R2.1)).cell? ⟨u1.heap.size, 0, none⟩ = some (.string R1.1) := by rw [Go.Joins.cell_of_block xb3]; rfl
  have y1 : (u2.setCell ⟨u1.heap.size, 1, none⟩ (.int .i64 R2.1)).cell? ⟨u1.heap.size, 1, none⟩ = some (.int .i64 R2.1) := by rw [Go.Joins.cell_of_block xb3]; rfl
  clear HRt HD2
  go_wp2_with fail
  refine HRt2.out.mono ?_
  rintro e w5 ⟨rfl, hb5⟩
  have h5 := h3.keep hb5
  have hsz5 := h3.lt
  have xlt : u1.heap.size < (u2.setCell ⟨u1.heap.size, 1, none⟩ (.int .i64 R2.1)).heap.size := (Array.getElem?_eq_some_iff.1 xb3).1
  have hBW := hB3.size
  have xb5 := (hb5.block u1.heap.size xlt).trans xb3
  have z5 := (hb5.block w.heap.size (by omega)).trans z3
  have hB5 := hB3.trans (hb5.mono hBW)
  have HE := rend_any (rightG ⟨R1.1, R2.1⟩) h5
  rw [← HVD.out] at HE
  have HE2 := hide3 HE
  clear HE HRt2 hb5 h3 xb3 z3 hB3 y0 y1
  go_wp2_with fail
  refine HE2.out.mono ?_
  rintro e w6 ⟨rfl, t6⟩
  have xb6 := res3 xb5 t6 hxn
  have z6 := res3 z5 t6 (by omega)
  have hB6 := below_grown2 hB5 t6 (by omega)
  clear HE2 xb5 z5 hB5 t6 h5
  have y0 : w6.cell? ⟨u1.heap.size, 0, none⟩ = some (.string R1.1) := by rw [Go.Joins.cell_of_block xb6]; rfl
  have m0 : w6.cell? ⟨w.heap.size, 0, none⟩ = some (.string ⟨#[]⟩) := by rw [Go.Joins.cell_of_block z6]; rfl
  have mf0 := Go.Joins.unfrozen_of_block z6 0
  have y1 : w6.cell? ⟨u1.heap.size, 1, none⟩ = some (.int .i64 R2.1) := by rw [Go.Joins.cell_of_block xb6]; rfl
  have m1 : w6.cell? ⟨w.heap.size, 1, none⟩ = some (.int .i64 0) := by rw [Go.Joins.cell_of_block z6]; rfl
  have mf1 := Go.Joins.unfrozen_of_block z6 1
  by_cases hv : vd.2 = 0
  case neg =>
    have eo : ox = ⟨⟨#[]⟩, 0⟩ := HOX.out.trans (if_neg hv)
    subst eo
    have hv1 : (vd.2 == 0) = false := by simpa using hv
    have hv2 : (vd.2 != 0) = true := by simpa using hv
    have zW : ((w6.setCell ⟨w.heap.size, 0, none⟩ (.string ⟨#[]⟩)).setCell ⟨w.heap.size, 1, none⟩ (.int .i64 0)).heap[w.heap.size]? = some (.cells #[.string ⟨#[]⟩, .int .i64 0] 39 (0, 0)) := blk_set2 z6 _ _
    have BW : Below w.heap.size w ((w6.setCell ⟨w.heap.size, 0, none⟩ (.string ⟨#[]⟩)).setCell ⟨w.heap.size, 1, none⟩ (.int .i64 0)) := ((hB6.setCell (p := ⟨w.heap.size, 0, none⟩) (by simp) _).setCell (p := ⟨w.heap.size, 1, none⟩) (by simp) _)
    go_wp2
    generalize ((w6.setCell ⟨w.heap.size, 0, none⟩ (.string ⟨#[]⟩)).setCell ⟨w.heap.size, 1, none⟩ (.int .i64 0)) = W at zW BW ⊢
    have yy0 : W.cell? ⟨w.heap.size, 0, none⟩ = some (.string ⟨#[]⟩) := (by rw [Go.Joins.cell_of_block zW]; rfl)
    have yy1 : W.cell? ⟨w.heap.size, 1, none⟩ = some (.int .i64 0) := (by rw [Go.Joins.cell_of_block zW]; rfl)
    refine bodyPost_ret (v := .tuple #[.agg #[.string ⟨#[]⟩, .int .i64 0], .int .i64 vd.1, .int .i64 vd.2]) (by simp [results, Try.results31, go_sem, yy0, yy1]) rfl ⟨rfl, BW⟩
  have eo : ox = ⟨R1.1, R2.1⟩ := HOX.out.trans (if_pos hv)
  subst eo
  have hv1 : vd.1 = 0 := verd_ok HVD.out hv
  have zW : ((w6.setCell ⟨w.heap.size, 0, none⟩ (.string R1.1)).setCell ⟨w.heap.size, 1, none⟩ (.int .i64 R2.1)).heap[w.heap.size]? = some (.cells #[.string R1.1, .int .i64 R2.1] 39 (0, 0)) := blk_set2 z6 _ _
  have BW : Below w.heap.size w ((w6.setCell ⟨w.heap.size, 0, none⟩ (.string R1.1)).setCell ⟨w.heap.size, 1, none⟩ (.int .i64 R2.1)) := ((hB6.setCell (p := ⟨w.heap.size, 0, none⟩) (by simp) _).setCell (p := ⟨w.heap.size, 1, none⟩) (by simp) _)
  go_wp2
  generalize ((w6.setCell ⟨w.heap.size, 0, none⟩ (.string R1.1)).setCell ⟨w.heap.size, 1, none⟩ (.int .i64 R2.1)) = W at zW BW ⊢
  have yy0 : W.cell? ⟨w.heap.size, 0, none⟩ = some (.string R1.1) := (by rw [Go.Joins.cell_of_block zW]; rfl)
  have yy1 : W.cell? ⟨w.heap.size, 1, none⟩ = some (.int .i64 R2.1) := (by rw [Go.Joins.cell_of_block zW]; rfl)
  refine bodyPost_ret (v := .tuple #[.agg #[.string R1.1, .int .i64 R2.1], .int .i64 0, .int .i64 0]) (by simp [results, Try.results31, go_sem, yy0, yy1]) rfl ⟨by rw [hv, hv1]; rfl, BW⟩
end
end Go.Proofs.Yteihabdldiopeaa
