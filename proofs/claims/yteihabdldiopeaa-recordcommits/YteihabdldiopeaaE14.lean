/-
  The functions in fields that read.
-/
import Derived.Test.YteihabdldiopeaaE13b
import Derived.Test.YteihabdldiopeaaE13c
set_option linter.unusedVariables false
set_option linter.unusedSimpArgs false
namespace Go.Proofs.Yteihabdldiopeaa
open Go.RowKit Go.Maps

/-- A block behind what a reader did. -/
theorem res3 {w w1 : World} {n r : Nat} {cs : Array Value} {t : TypeId} (h : w.heap[n]? = some (.cells cs t (0, 0))) (hg : w.grownBy w1 (some r)) (hn : n ≠ r) : w1.heap[n]? = some (.cells cs t (0, 0)) :=
  (hg.block n (Array.getElem?_eq_some_iff.1 h).1 (by simpa using hn)).trans h
theorem grown_of_below {w w' : World} (h : Below w.heap.size w w') (row : Option Nat) : w.grownBy w' row := ⟨h.os, h.tape, h.output, h.size, fun k hk _ => h.block k hk⟩

theorem Sl.off2 {w w' : World} {ao : Option Addr} {len cap : Nat} {xs : List Int} (h : Sl w ao len cap xs) {r : Nat} {cs : Array Value} {t : TypeId} {fz : Nat × Nat} (hr : w.heap[r]? = some (.cells cs t fz))
    (hc : ∀ (i : Nat) (n : Int), cs[i]? ≠ some (Value.int .u8 n)) (hg : w.grownBy w' (some r)) : Sl w' ao len cap xs := by
  obtain ⟨h1, h2, h3, h4, h5, h6⟩ := h
  refine ⟨h1, h2, h3, h4, h5, fun hl => ?_⟩
  obtain ⟨bl, off, e, hlt, hcl⟩ := h6 hl
  have hne : some bl ≠ some r := fun e2 => by
    cases e2
    have h7 := hcl 0 hl
    rw [Go.Joins.cell_of_block hr] at h7
    exact hc _ _ h7
  exact ⟨bl, off, e, Nat.lt_of_lt_of_le hlt hg.size, fun i hi => (World.cell?_of_block (hg.block bl hlt hne)).trans (hcl i hi)⟩

section
variable {w w1 W : World} {r : Nat} {ao : Option Addr} {len cap : Nat} {xs : List Int} {s : Rs}
/-- A result is laid into a block of its own. -/
theorem Rd.laid (h : Rd w1 r ao len cap xs s) (G : w.grownBy w1 (some r)) (hr : r < w.heap.size) {n : Nat} (hn : w.heap.size ≤ n) {cs : Array Value} {t : TypeId} (z : w1.heap[n]? = some (.cells cs t (0, 0))) (hc : ∀ (i : Nat) (m : Int), cs[i]? ≠ some (Value.int .u8 m)) (hW : w1.grownBy W (some n)) :
    Rd W r ao len cap xs s ∧ w.grownBy W (some r) := by
  have hs := G.size
  refine ⟨⟨(hW.block r h.lt (by simp; omega)).trans h.blk, h.sl.off2 z hc hW, h.le⟩, ⟨hW.os.trans G.os, hW.tape.trans G.tape, hW.output.trans G.output, Nat.le_trans hs hW.size, fun k hk hne => (hW.block k (by omega) (by simp; omega)).trans (G.block k hk hne)⟩⟩
theorem set3 (w : World) (n : Nat) (a b c : Value) : w.grownBy (((w.setCell ⟨n, 0, none⟩ a).setCell ⟨n, 1, none⟩ b).setCell ⟨n, 2, none⟩ c) (some n) := ((grown_set w n 0 a).trans (grown_set _ n 1 b)).trans (grown_set _ n 2 c)
theorem set2 (w : World) (n : Nat) (a b : Value) : w.grownBy ((w.setCell ⟨n, 0, none⟩ a).setCell ⟨n, 1, none⟩ b) (some n) := (grown_set w n 0 a).trans (grown_set _ n 1 b)
theorem blk_set3 {w : World} {n : Nat} {x y z : Value} {t : TypeId} (h : w.heap[n]? = some (.cells #[x, y, z] t (0, 0))) (a b c : Value) : (((w.setCell ⟨n, 0, none⟩ a).setCell ⟨n, 1, none⟩ b).setCell ⟨n, 2, none⟩ c).heap[n]? = some (.cells #[a, b, c] t (0, 0)) :=
  (Go.Joins.block_setCell (Go.Joins.block_setCell (Go.Joins.block_setCell h a) b) c).trans rfl
theorem blk_set2 {w : World} {n : Nat} {x y : Value} {t : TypeId} (h : w.heap[n]? = some (.cells #[x, y] t (0, 0))) (a b : Value) : ((w.setCell ⟨n, 0, none⟩ a).setCell ⟨n, 1, none⟩ b).heap[n]? = some (.cells #[a, b] t (0, 0)) :=
  (Go.Joins.block_setCell (Go.Joins.block_setCell h a) b).trans rfl
theorem no3 {a b c : Value} (ha : ∀ n, a ≠ .int .u8 n) (hb : ∀ n, b ≠ .int .u8 n) (hc : ∀ n, c ≠ .int .u8 n) : ∀ (i : Nat) (m : Int), (#[a, b, c] : Array Value)[i]? ≠ some (Value.int .u8 m) := by
  intro i m h
  rcases i with _ | _ | _ | n
  · simp at h; exact ha _ h
  · simp at h; exact hb _ h
  · simp at h; exact hc _ h
  · simp at h
theorem no2 {a b : Value} (ha : ∀ n, a ≠ .int .u8 n) (hb : ∀ n, b ≠ .int .u8 n) : ∀ (i : Nat) (m : Int), (#[a, b] : Array Value)[i]? ≠ some (Value.int .u8 m) := by
  intro i m h
  rcases i with _ | _ | n
  · simp at h; exact ha _ h
  · simp at h; exact hb _ h
  · simp at h
end

section
variable {w : World} {r : Nat} {ao : Option Addr} {len cap : Nat} {xs : List Int} {s : Rs}
set_option maxRecDepth 100000
set_option maxHeartbeats 2000000

theorem takePair_any (h : Rd w r ao len cap xs s) :
    Calls Try.prog 98 #[.pointer (some ⟨r, 0, none⟩)] w fun e w' => e = .returned (rpr xs s).1.v ∧ Rd w' r ao len cap xs (rpr xs s).2 ∧ w.grownBy w' (some r) := by
  have hne : w.heap.size ≠ r := by have := h.lt; omega
  have hlt := h.lt
  have z0 := heap_alloc_new w (.cells #[.int .i64 0, .int .i64 0, .int .i64 0] 53)
  have G0 : w.grownBy (w.alloc (.cells #[.int .i64 0, .int .i64 0, .int .i64 0] 53)) (some r) := World.grownBy_alloc w _ _
  have h0 := h.keep ((Below.refl _ _).alloc (Nat.le_refl _) (.cells #[.int .i64 0, .int .i64 0, .int .i64 0] 53))
  clear h
  unfold rpr Pr.v
  simp only []
  obtain ⟨R1, e1⟩ : ∃ R, R = rnum xs 2147483647 s := ⟨_, rfl⟩
  obtain ⟨R2, e2⟩ : ∃ R, R = rnum xs 1099511627775 R1.2 := ⟨_, rfl⟩
  obtain ⟨R3, e3⟩ : ∃ R, R = rnum xs 1099511627775 R2.2 := ⟨_, rfl⟩
  rw [← e1, ← e2, ← e3]
  (try rw [← e1] at hm)
  have E1 := hide3 e1
  clear e1
  have E2 := hide3 e2
  clear e2
  have E3 := hide3 e3
  clear e3
  have HC1 := hide3 (fileNumber_any h0)
  go_enter Try.func98, Try.ntmps98
  go_wp2_with fail
  refine HC1.out.mono ?_
  rintro e w1 ⟨rfl, h1, g1⟩
  rw [← E1.out] at h1 ⊢
  have z1 := res3 z0 g1 hne
  have G1 := G0.trans g1
  clear HC1 z0 g1 G0 h0
  have HC2 := hide3 (time2_any h1)
  go_wp2_with fail
  refine HC2.out.mono ?_
  rintro e w2 ⟨rfl, h2, g2⟩
  rw [← E2.out] at h2 ⊢
  have z2 := res3 z1 g2 hne
  have G2 := G1.trans g2
  clear HC2 z1 g2 G1 h1
  have HC3 := hide3 (time2_any h2)
  go_wp2_with fail
  refine HC3.out.mono ?_
  rintro e w3 ⟨rfl, h3, g3⟩
  rw [← E3.out] at h3 ⊢
  have z3 := res3 z2 g3 hne
  have G3 := G2.trans g3
  clear HC3 z2 g3 G2 h2
  have c0 : w3.cell? ⟨w.heap.size, 0, none⟩ = some (.int .i64 0) := by rw [Go.Joins.cell_of_block z3]; rfl
  have f0 := Go.Joins.unfrozen_of_block z3 0
  have c1 : w3.cell? ⟨w.heap.size, 1, none⟩ = some (.int .i64 0) := by rw [Go.Joins.cell_of_block z3]; rfl
  have f1 := Go.Joins.unfrozen_of_block z3 1
  have c2 : w3.cell? ⟨w.heap.size, 2, none⟩ = some (.int .i64 0) := by rw [Go.Joins.cell_of_block z3]; rfl
  have f2 := Go.Joins.unfrozen_of_block z3 2
  have HF := hide3 (h3.laid G3 hlt (Nat.le_refl _) z3 (no3 (by simp) (by simp) (by simp)) (set3 _ _ (.int .i64 R1.1) (.int .i64 R2.1) (.int .i64 R3.1)))
  have zW : (((w3.setCell ⟨w.heap.size, 0, none⟩ (.int .i64 R1.1)).setCell ⟨w.heap.size, 1, none⟩ (.int .i64 R2.1)).setCell ⟨w.heap.size, 2, none⟩ (.int .i64 R3.1)).heap[w.heap.size]? = some (.cells #[.int .i64 R1.1, .int .i64 R2.1, .int .i64 R3.1] 53 (0, 0)) := blk_set3 z3 _ _ _
  go_wp2
  generalize (((w3.setCell ⟨w.heap.size, 0, none⟩ (.int .i64 R1.1)).setCell ⟨w.heap.size, 1, none⟩ (.int .i64 R2.1)).setCell ⟨w.heap.size, 2, none⟩ (.int .i64 R3.1)) = W at HF zW ⊢
  clear c0 f0 c1 f1 c2 f2
  have y0 : W.cell? ⟨w.heap.size, 0, none⟩ = some (.int .i64 R1.1) := (by rw [Go.Joins.cell_of_block zW]; rfl)
  have y1 : W.cell? ⟨w.heap.size, 1, none⟩ = some (.int .i64 R2.1) := (by rw [Go.Joins.cell_of_block zW]; rfl)
  have y2 : W.cell? ⟨w.heap.size, 2, none⟩ = some (.int .i64 R3.1) := (by rw [Go.Joins.cell_of_block zW]; rfl)
  refine bodyPost_ret (v := .agg #[.int .i64 R1.1, .int .i64 R2.1, .int .i64 R3.1]) (by simp [results, Try.results98, go_sem, y0, y1, y2]) rfl ⟨rfl, HF.out⟩

theorem takeRow_any (h : Rd w r ao len cap xs s) :
    Calls Try.prog 70 #[.pointer (some ⟨r, 0, none⟩)] w fun e w' => e = .returned (Rw.v ⟨(rtxt xs 16 s).1, (rtxt xs 64 (rtxt xs 16 s).2).1, (rnum xs 1099511627775 (rtxt xs 64 (rtxt xs 16 s).2).2).1⟩) ∧ Rd w' r ao len cap xs (rnum xs 1099511627775 (rtxt xs 64 (rtxt xs 16 s).2).2).2 ∧ w.grownBy w' (some r) := by
  have hne : w.heap.size ≠ r := by have := h.lt; omega
  have hlt := h.lt
  have z0 := heap_alloc_new w (.cells #[.string .empty, .string .empty, .int .i64 0] 36)
  have G0 : w.grownBy (w.alloc (.cells #[.string .empty, .string .empty, .int .i64 0] 36)) (some r) := World.grownBy_alloc w _ _
  have h0 := h.keep ((Below.refl _ _).alloc (Nat.le_refl _) (.cells #[.string .empty, .string .empty, .int .i64 0] 36))
  clear h
  unfold Rw.v
  simp only []
  obtain ⟨R1, e1⟩ : ∃ R, R = rtxt xs 16 s := ⟨_, rfl⟩
  obtain ⟨R2, e2⟩ : ∃ R, R = rtxt xs 64 R1.2 := ⟨_, rfl⟩
  obtain ⟨R3, e3⟩ : ∃ R, R = rnum xs 1099511627775 R2.2 := ⟨_, rfl⟩
  rw [← e1, ← e2, ← e3]
  (try rw [← e1] at hm)
  have E1 := hide3 e1
  clear e1
  have E2 := hide3 e2
  clear e2
  have E3 := hide3 e3
  clear e3
  have HC1 := hide3 (text_any 16 h0 (by omega) (by omega))
  go_enter Try.func70, Try.ntmps70
  go_wp2_with fail
  refine HC1.out.mono ?_
  rintro e w1 ⟨rfl, h1, g1⟩
  rw [← E1.out] at h1 ⊢
  have z1 := res3 z0 g1 hne
  have G1 := G0.trans g1
  clear HC1 z0 g1 G0 h0
  have HC2 := hide3 (text_any 64 h1 (by omega) (by omega))
  go_wp2_with fail
  refine HC2.out.mono ?_
  rintro e w2 ⟨rfl, h2, g2⟩
  rw [← E2.out] at h2 ⊢
  have z2 := res3 z1 g2 hne
  have G2 := G1.trans g2
  clear HC2 z1 g2 G1 h1
  have HC3 := hide3 (time2_any h2)
  go_wp2_with fail
  refine HC3.out.mono ?_
  rintro e w3 ⟨rfl, h3, g3⟩
  rw [← E3.out] at h3 ⊢
  have z3 := res3 z2 g3 hne
  have G3 := G2.trans g3
  clear HC3 z2 g3 G2 h2
  have c0 : w3.cell? ⟨w.heap.size, 0, none⟩ = some (.string .empty) := by rw [Go.Joins.cell_of_block z3]; rfl
  have f0 := Go.Joins.unfrozen_of_block z3 0
  have c1 : w3.cell? ⟨w.heap.size, 1, none⟩ = some (.string .empty) := by rw [Go.Joins.cell_of_block z3]; rfl
  have f1 := Go.Joins.unfrozen_of_block z3 1
  have c2 : w3.cell? ⟨w.heap.size, 2, none⟩ = some (.int .i64 0) := by rw [Go.Joins.cell_of_block z3]; rfl
  have f2 := Go.Joins.unfrozen_of_block z3 2
  have HF := hide3 (h3.laid G3 hlt (Nat.le_refl _) z3 (no3 (by simp) (by simp) (by simp)) (set3 _ _ (.string R1.1) (.string R2.1) (.int .i64 R3.1)))
  have zW : (((w3.setCell ⟨w.heap.size, 0, none⟩ (.string R1.1)).setCell ⟨w.heap.size, 1, none⟩ (.string R2.1)).setCell ⟨w.heap.size, 2, none⟩ (.int .i64 R3.1)).heap[w.heap.size]? = some (.cells #[.string R1.1, .string R2.1, .int .i64 R3.1] 36 (0, 0)) := blk_set3 z3 _ _ _
  go_wp2
  generalize (((w3.setCell ⟨w.heap.size, 0, none⟩ (.string R1.1)).setCell ⟨w.heap.size, 1, none⟩ (.string R2.1)).setCell ⟨w.heap.size, 2, none⟩ (.int .i64 R3.1)) = W at HF zW ⊢
  clear c0 f0 c1 f1 c2 f2
  have y0 : W.cell? ⟨w.heap.size, 0, none⟩ = some (.string R1.1) := (by rw [Go.Joins.cell_of_block zW]; rfl)
  have y1 : W.cell? ⟨w.heap.size, 1, none⟩ = some (.string R2.1) := (by rw [Go.Joins.cell_of_block zW]; rfl)
  have y2 : W.cell? ⟨w.heap.size, 2, none⟩ = some (.int .i64 R3.1) := (by rw [Go.Joins.cell_of_block zW]; rfl)
  refine bodyPost_ret (v := .agg #[.string R1.1, .string R2.1, .int .i64 R3.1]) (by simp [results, Try.results70, go_sem, y0, y1, y2]) rfl ⟨rfl, HF.out⟩

theorem takeGone_any (h : Rd w r ao len cap xs s) :
    Calls Try.prog 74 #[.pointer (some ⟨r, 0, none⟩)] w fun e w' => e = .returned (Gn.v ⟨(rtxt xs 16 s).1, (rnum xs 1099511627775 (rtxt xs 16 s).2).1⟩) ∧ Rd w' r ao len cap xs (rnum xs 1099511627775 (rtxt xs 16 s).2).2 ∧ w.grownBy w' (some r) := by
  have hne : w.heap.size ≠ r := by have := h.lt; omega
  have hlt := h.lt
  have z0 := heap_alloc_new w (.cells #[.string .empty, .int .i64 0] 39)
  have G0 : w.grownBy (w.alloc (.cells #[.string .empty, .int .i64 0] 39)) (some r) := World.grownBy_alloc w _ _
  have h0 := h.keep ((Below.refl _ _).alloc (Nat.le_refl _) (.cells #[.string .empty, .int .i64 0] 39))
  clear h
  unfold Gn.v
  simp only []
  obtain ⟨R1, e1⟩ : ∃ R, R = rtxt xs 16 s := ⟨_, rfl⟩
  obtain ⟨R2, e2⟩ : ∃ R, R = rnum xs 1099511627775 R1.2 := ⟨_, rfl⟩
  rw [← e1, ← e2]
  (try rw [← e1] at hm)
  have E1 := hide3 e1
  clear e1
  have E2 := hide3 e2
  clear e2
  have HC1 := hide3 (text_any 16 h0 (by omega) (by omega))
  go_enter Try.func74, Try.ntmps74
  go_wp2_with fail
  refine HC1.out.mono ?_
  rintro e w1 ⟨rfl, h1, g1⟩
  rw [← E1.out] at h1 ⊢
  have z1 := res3 z0 g1 hne
  have G1 := G0.trans g1
  clear HC1 z0 g1 G0 h0
  have HC2 := hide3 (time2_any h1)
  go_wp2_with fail
  refine HC2.out.mono ?_
  rintro e w2 ⟨rfl, h2, g2⟩
  rw [← E2.out] at h2 ⊢
  have z2 := res3 z1 g2 hne
  have G2 := G1.trans g2
  clear HC2 z1 g2 G1 h1
  have c0 : w2.cell? ⟨w.heap.size, 0, none⟩ = some (.string .empty) := by rw [Go.Joins.cell_of_block z2]; rfl
  have f0 := Go.Joins.unfrozen_of_block z2 0
  have c1 : w2.cell? ⟨w.heap.size, 1, none⟩ = some (.int .i64 0) := by rw [Go.Joins.cell_of_block z2]; rfl
  have f1 := Go.Joins.unfrozen_of_block z2 1
  have HF := hide3 (h2.laid G2 hlt (Nat.le_refl _) z2 (no2 (by simp) (by simp)) (set2 _ _ (.string R1.1) (.int .i64 R2.1)))
  have zW : ((w2.setCell ⟨w.heap.size, 0, none⟩ (.string R1.1)).setCell ⟨w.heap.size, 1, none⟩ (.int .i64 R2.1)).heap[w.heap.size]? = some (.cells #[.string R1.1, .int .i64 R2.1] 39 (0, 0)) := blk_set2 z2 _ _
  go_wp2
  generalize ((w2.setCell ⟨w.heap.size, 0, none⟩ (.string R1.1)).setCell ⟨w.heap.size, 1, none⟩ (.int .i64 R2.1)) = W at HF zW ⊢
  clear c0 f0 c1 f1
  have y0 : W.cell? ⟨w.heap.size, 0, none⟩ = some (.string R1.1) := (by rw [Go.Joins.cell_of_block zW]; rfl)
  have y1 : W.cell? ⟨w.heap.size, 1, none⟩ = some (.int .i64 R2.1) := (by rw [Go.Joins.cell_of_block zW]; rfl)
  refine bodyPost_ret (v := .agg #[.string R1.1, .int .i64 R2.1]) (by simp [results, Try.results74, go_sem, y0, y1]) rfl ⟨rfl, HF.out⟩

theorem takeWriteG_any (h : Rd w r ao len cap xs s) (hm : (rmark xs 0 1 s).1 = 1) :
    Calls Try.prog 89 #[.pointer (some ⟨r, 0, none⟩)] w fun e w' => e = .returned (Wr.v ⟨(rtxt xs 16 (rmark xs 0 1 s).2).1, ⟨#[]⟩, true⟩) ∧ Rd w' r ao len cap xs (rtxt xs 16 (rmark xs 0 1 s).2).2 ∧ w.grownBy w' (some r) := by
  have hne : w.heap.size ≠ r := by have := h.lt; omega
  have hlt := h.lt
  have z0 := heap_alloc_new w (.cells #[.string .empty, .string .empty, .bool false] 28)
  have G0 : w.grownBy (w.alloc (.cells #[.string .empty, .string .empty, .bool false] 28)) (some r) := World.grownBy_alloc w _ _
  have h0 := h.keep ((Below.refl _ _).alloc (Nat.le_refl _) (.cells #[.string .empty, .string .empty, .bool false] 28))
  clear h
  unfold Wr.v
  simp only []
  obtain ⟨R1, e1⟩ : ∃ R, R = rmark xs 0 1 s := ⟨_, rfl⟩
  obtain ⟨R2, e2⟩ : ∃ R, R = rtxt xs 16 R1.2 := ⟨_, rfl⟩
  rw [← e1, ← e2]
  (try rw [← e1] at hm)
  have E1 := hide3 e1
  clear e1
  have E2 := hide3 e2
  clear e2
  have HC1 := hide3 (mark_any 0 1 h0 (by omega) (by omega))
  go_enter Try.func89, Try.ntmps89
  go_wp2_with fail
  refine HC1.out.mono ?_
  rintro e w1 ⟨rfl, h1, g1⟩
  rw [← E1.out] at h1 ⊢
  have z1 := res3 z0 g1 hne
  have G1 := G0.trans g1
  clear HC1 z0 g1 G0 h0
  have HC2 := hide3 (text_any 16 h1 (by omega) (by omega))
  go_wp2_with fail
  refine HC2.out.mono ?_
  rintro e w2 ⟨rfl, h2, g2⟩
  rw [← E2.out] at h2 ⊢
  have z2 := res3 z1 g2 hne
  have G2 := G1.trans g2
  clear HC2 z1 g2 G1 h1
  have c0 : w2.cell? ⟨w.heap.size, 0, none⟩ = some (.string .empty) := by rw [Go.Joins.cell_of_block z2]; rfl
  have f0 := Go.Joins.unfrozen_of_block z2 0
  have c1 : w2.cell? ⟨w.heap.size, 1, none⟩ = some (.string .empty) := by rw [Go.Joins.cell_of_block z2]; rfl
  have f1 := Go.Joins.unfrozen_of_block z2 1
  have c2 : w2.cell? ⟨w.heap.size, 2, none⟩ = some (.bool false) := by rw [Go.Joins.cell_of_block z2]; rfl
  have f2 := Go.Joins.unfrozen_of_block z2 2
  have HF := hide3 (h2.laid G2 hlt (Nat.le_refl _) z2 (no3 (by simp) (by simp) (by simp)) (set3 _ _ (.string R2.1) (.string ⟨#[]⟩) (.bool true)))
  have zW : (((w2.setCell ⟨w.heap.size, 0, none⟩ (.string R2.1)).setCell ⟨w.heap.size, 1, none⟩ (.string ⟨#[]⟩)).setCell ⟨w.heap.size, 2, none⟩ (.bool true)).heap[w.heap.size]? = some (.cells #[.string R2.1, .string ⟨#[]⟩, .bool true] 28 (0, 0)) := blk_set3 z2 _ _ _
  go_wp2
  generalize (((w2.setCell ⟨w.heap.size, 0, none⟩ (.string R2.1)).setCell ⟨w.heap.size, 1, none⟩ (.string ⟨#[]⟩)).setCell ⟨w.heap.size, 2, none⟩ (.bool true)) = W at HF zW ⊢
  clear c0 f0 c1 f1 c2 f2
  have y0 : W.cell? ⟨w.heap.size, 0, none⟩ = some (.string R2.1) := (by rw [Go.Joins.cell_of_block zW]; rfl)
  have y1 : W.cell? ⟨w.heap.size, 1, none⟩ = some (.string ⟨#[]⟩) := (by rw [Go.Joins.cell_of_block zW]; rfl)
  have y2 : W.cell? ⟨w.heap.size, 2, none⟩ = some (.bool true) := (by rw [Go.Joins.cell_of_block zW]; rfl)
  refine bodyPost_ret (v := .agg #[.string R2.1, .string ⟨#[]⟩, .bool true]) (by simp [results, Try.results89, go_sem, y0, y1, y2]) rfl ⟨rfl, HF.out⟩

theorem takeWriteV_any (h : Rd w r ao len cap xs s) (hm : ¬ (rmark xs 0 1 s).1 = 1) :
    Calls Try.prog 89 #[.pointer (some ⟨r, 0, none⟩)] w fun e w' => e = .returned (Wr.v ⟨(rtxt xs 16 (rmark xs 0 1 s).2).1, (rtxt xs 64 (rtxt xs 16 (rmark xs 0 1 s).2).2).1, false⟩) ∧ Rd w' r ao len cap xs (rtxt xs 64 (rtxt xs 16 (rmark xs 0 1 s).2).2).2 ∧ w.grownBy w' (some r) := by
  have hne : w.heap.size ≠ r := by have := h.lt; omega
  have hlt := h.lt
  have z0 := heap_alloc_new w (.cells #[.string .empty, .string .empty, .bool false] 28)
  have G0 : w.grownBy (w.alloc (.cells #[.string .empty, .string .empty, .bool false] 28)) (some r) := World.grownBy_alloc w _ _
  have h0 := h.keep ((Below.refl _ _).alloc (Nat.le_refl _) (.cells #[.string .empty, .string .empty, .bool false] 28))
  clear h
  unfold Wr.v
  simp only []
  obtain ⟨R1, e1⟩ : ∃ R, R = rmark xs 0 1 s := ⟨_, rfl⟩
  obtain ⟨R2, e2⟩ : ∃ R, R = rtxt xs 16 R1.2 := ⟨_, rfl⟩
  obtain ⟨R3, e3⟩ : ∃ R, R = rtxt xs 64 R2.2 := ⟨_, rfl⟩
  rw [← e1, ← e2, ← e3]
  (try rw [← e1] at hm)
  have E1 := hide3 e1
  clear e1
  have E2 := hide3 e2
  clear e2
  have E3 := hide3 e3
  clear e3
  have HC1 := hide3 (mark_any 0 1 h0 (by omega) (by omega))
  go_enter Try.func89, Try.ntmps89
  go_wp2_with fail
  refine HC1.out.mono ?_
  rintro e w1 ⟨rfl, h1, g1⟩
  rw [← E1.out] at h1 ⊢
  have z1 := res3 z0 g1 hne
  have G1 := G0.trans g1
  clear HC1 z0 g1 G0 h0
  have HC2 := hide3 (text_any 16 h1 (by omega) (by omega))
  go_wp2_with fail
  refine HC2.out.mono ?_
  rintro e w2 ⟨rfl, h2, g2⟩
  rw [← E2.out] at h2 ⊢
  have z2 := res3 z1 g2 hne
  have G2 := G1.trans g2
  clear HC2 z1 g2 G1 h1
  have HC3 := hide3 (text_any 64 h2 (by omega) (by omega))
  go_wp2_with fail
  refine HC3.out.mono ?_
  rintro e w3 ⟨rfl, h3, g3⟩
  rw [← E3.out] at h3 ⊢
  have z3 := res3 z2 g3 hne
  have G3 := G2.trans g3
  clear HC3 z2 g3 G2 h2
  have c0 : w3.cell? ⟨w.heap.size, 0, none⟩ = some (.string .empty) := by rw [Go.Joins.cell_of_block z3]; rfl
  have f0 := Go.Joins.unfrozen_of_block z3 0
  have c1 : w3.cell? ⟨w.heap.size, 1, none⟩ = some (.string .empty) := by rw [Go.Joins.cell_of_block z3]; rfl
  have f1 := Go.Joins.unfrozen_of_block z3 1
  have c2 : w3.cell? ⟨w.heap.size, 2, none⟩ = some (.bool false) := by rw [Go.Joins.cell_of_block z3]; rfl
  have f2 := Go.Joins.unfrozen_of_block z3 2
  have HF := hide3 (h3.laid G3 hlt (Nat.le_refl _) z3 (no3 (by simp) (by simp) (by simp)) (set3 _ _ (.string R2.1) (.string R3.1) (.bool false)))
  have zW : (((w3.setCell ⟨w.heap.size, 0, none⟩ (.string R2.1)).setCell ⟨w.heap.size, 1, none⟩ (.string R3.1)).setCell ⟨w.heap.size, 2, none⟩ (.bool false)).heap[w.heap.size]? = some (.cells #[.string R2.1, .string R3.1, .bool false] 28 (0, 0)) := blk_set3 z3 _ _ _
  go_wp2
  generalize (((w3.setCell ⟨w.heap.size, 0, none⟩ (.string R2.1)).setCell ⟨w.heap.size, 1, none⟩ (.string R3.1)).setCell ⟨w.heap.size, 2, none⟩ (.bool false)) = W at HF zW ⊢
  clear c0 f0 c1 f1 c2 f2
  have y0 : W.cell? ⟨w.heap.size, 0, none⟩ = some (.string R2.1) := (by rw [Go.Joins.cell_of_block zW]; rfl)
  have y1 : W.cell? ⟨w.heap.size, 1, none⟩ = some (.string R3.1) := (by rw [Go.Joins.cell_of_block zW]; rfl)
  have y2 : W.cell? ⟨w.heap.size, 2, none⟩ = some (.bool false) := (by rw [Go.Joins.cell_of_block zW]; rfl)
  refine bodyPost_ret (v := .agg #[.string R2.1, .string R3.1, .bool false]) (by simp [results, Try.results89, go_sem, y0, y1, y2]) rfl ⟨rfl, HF.out⟩

theorem takeWrite_any (h : Rd w r ao len cap xs s) :
    Calls Try.prog 89 #[.pointer (some ⟨r, 0, none⟩)] w fun e w' => e = .returned (rwr xs s).1.v ∧ Rd w' r ao len cap xs (rwr xs s).2 ∧ w.grownBy w' (some r) := by
  unfold rwr
  by_cases hm : (rmark xs 0 1 s).1 = 1
  · rw [if_pos hm]
    exact takeWriteG_any h hm
  · rw [if_neg hm]
    exact takeWriteV_any h hm
end
end Go.Proofs.Yteihabdldiopeaa
