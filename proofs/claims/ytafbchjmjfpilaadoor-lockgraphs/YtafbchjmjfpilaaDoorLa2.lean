/-
  La2: What a lock word says: holdersOf, asked, against, word.
-/
import Derived.Test.YtafbchjmjfpilaaDoorLa1
import Derived.RangeFuncNested
set_option linter.unusedVariables false
set_option linter.unusedSimpArgs false
namespace Go.Proofs.YtafbchjmjfpilaaDoor
open Go.RowKit

theorem mid_raw (w : Nat) : w &&& (65535 * 2 ^ 16) = w / 2 ^ 16 % 2 ^ 16 * 2 ^ 16 := by
  apply Nat.eq_of_testBit_eq
  intro k
  have e2 : (65535 : Nat) = 2 ^ 16 - 1 := by decide
  rw [Nat.testBit_and, Nat.testBit_mul_two_pow, Nat.testBit_mul_two_pow, e2, Nat.testBit_two_pow_sub_one, Nat.testBit_mod_two_pow, Nat.testBit_div_two_pow]
  by_cases h : 16 ≤ k
  · have : k - 16 + 16 = k := by omega
    simp [h, this, Bool.and_comm]
  · simp [h]
theorem mid (w : Nat) : w &&& 4294901760 = w / 65536 % 65536 * 65536 := mid_raw w
theorem mid_zero {w : Nat} : w &&& 4294901760 = 0 ↔ w % 4294967296 < 65536 := by rw [mid]; omega

/-- A holders struct. -/
def hd (r x : Nat) : Value := .agg #[.int .u16 (r : Int), .int .u16 (ws x : Int)]

theorem two_new (w : World) (a b : Value) (t : TypeId) (o : Obj) : ((w.alloc (.cells #[a, b] t)).alloc o).cell? ⟨w.heap.size, 0, none⟩ = some a ∧ ((w.alloc (.cells #[a, b] t)).alloc o).cell? ⟨w.heap.size, 1, none⟩ = some b := by
  have h : ((w.alloc (.cells #[a, b] t)).alloc o).heap[w.heap.size]? = some (.cells #[a, b] t (0, 0)) := (Below.heap_alloc _ _ _ (by simp)).trans (World.alloc_heap_new w _)
  exact ⟨Go.Joins.cell_of_block h 0, Go.Joins.cell_of_block h 1⟩
theorem one_new (w : World) (a b : Value) (t : TypeId) : (w.alloc (.cells #[a, b] t)).cell? ⟨w.heap.size, 0, none⟩ = some a ∧ (w.alloc (.cells #[a, b] t)).cell? ⟨w.heap.size, 1, none⟩ = some b := by
  have h : (w.alloc (.cells #[a, b] t)).heap[w.heap.size]? = some (.cells #[a, b] t (0, 0)) := World.alloc_heap_new w _
  exact ⟨Go.Joins.cell_of_block h 0, Go.Joins.cell_of_block h 1⟩
theorem two_set {W : World} {g : Nat} {u0 u1 : Value} {t : TypeId} (h : W.heap[g]? = some (.cells #[u0, u1] t (0, 0))) (a b : Value) :
    ((W.setCell ⟨g, 0, none⟩ a).setCell ⟨g, 1, none⟩ b).cell? ⟨g, 0, none⟩ = some a ∧ ((W.setCell ⟨g, 0, none⟩ a).setCell ⟨g, 1, none⟩ b).cell? ⟨g, 1, none⟩ = some b := by
  have c0 : W.cell? ⟨g, 0, none⟩ = some u0 := Go.Joins.cell_of_block h 0
  have c1 : W.cell? ⟨g, 1, none⟩ = some u1 := Go.Joins.cell_of_block h 1
  have d1 : (W.setCell ⟨g, 0, none⟩ a).cell? ⟨g, 1, none⟩ = some u1 := (World.cell?_setCell_other _ _ _ _ (by simp)).trans c1
  exact ⟨(World.cell?_setCell_other _ _ _ _ (by simp)).trans (World.cell?_setCell_same' _ _ _ (by rw [c0]; rfl)), World.cell?_setCell_same' _ _ _ (by rw [d1]; rfl)⟩
theorem below_drewN {n : Nat} {a w : World} (h : Below n a w) (q : Nat) : Below n a (w.drewN q) := ⟨h.os, h.tape, h.output, h.size, h.block⟩
theorem below1 (w : World) (o : Obj) : Below w.heap.size w (w.alloc o) := (Below.refl _ w).alloc (Nat.le_refl _) _
theorem below2 (w : World) (o o' : Obj) : Below w.heap.size w ((w.alloc o).alloc o') := (below1 w o).alloc (by simp) _

section
set_option maxHeartbeats 1000000
theorem of_right {v r x : Nat} (h : Lk.Wo v r x) (w : World) :
    Calls Tryd.prog 25 #[.int .u64 (v : Int)] w fun e w' => e = .returned (.tuple #[hd r x, .bool true]) ∧ Below w.heap.size w w' := by
  have hlt := h.lt
  have hr := h.r
  have hx := h.x
  have hdiv : (v : Int) / 4294967296 = (x : Int) := by have := h.div; omega
  have hand : bits BinOp.and IntKind.u64 (v : Int) 4294901760 = 0 := by
    have := bits_and_u64_nat v 4294901760 hlt (by decide)
    rw [mid_zero.2 (by rw [h.mod]; exact hr)] at this
    exact this
  have hmod : IntKind.u16.wrap (v : Int) = (r : Int) := by rw [wrap16]; have := h.eq; omega
  by_cases h0 : x = 0
  · subst h0
    have y := two_new w (.int .u16 (r : Int)) (.int .u16 0) 58 (.cells #[.int .u16 (r : Int), .int .u16 0] 58)
    have BW := below2 w (.cells #[.int .u16 (r : Int), .int .u16 0] 58) (.cells #[.int .u16 (r : Int), .int .u16 0] 58)
    have Y := hide2 y
    clear y
    go_enter Tryd.func25, Tryd.ntmps25
    go_wp2_with (simp only [hdiv, hand, hmod])
    have y0 := Y.out.1
    have y1 := Y.out.2
    refine bodyPost_ret (v := .tuple #[hd r 0, .bool true]) (by simp [results, Tryd.results25, go_sem, y0, y1, hd, ws]) rfl ⟨rfl, BW⟩
  · obtain ⟨y, rfl⟩ : ∃ y, x = y + 1 := ⟨x - 1, by omega⟩
    have HO := hide2 (fun w => only_any y (by omega) w)
    have hws : ws (y + 1) = 2 ^ y := by unfold ws; simp
    have hp := pow16_lt (k := y) (by omega)
    have h1 : (0 : Int) < (y : Int) + 1 := by omega
    have h16 : (y : Int) + 1 ≤ 16 := by omega
    have hsub : (y : Int) + 1 - 1 = (y : Int) := by omega
    have hpush : ((y + 1 : Nat) : Int) = (y : Int) + 1 := by omega
    rw [hpush] at hdiv
    have H := hide2 h
    clear h hx h0 hpush
    go_enter Tryd.func25, Tryd.ntmps25
    go_wp2_with fail
    refine (HO.out _).mono ?_
    rintro e w1 ⟨rfl, rfl⟩
    have yy := two_new w (.int .u16 (r : Int)) (.int .u16 ((2 ^ y : Nat) : Int)) 58 (.cells #[.int .u16 (r : Int), .int .u16 ((2 ^ y : Nat) : Int)] 58)
    have BW := below2 w (.cells #[.int .u16 (r : Int), .int .u16 ((2 ^ y : Nat) : Int)] 58) (.cells #[.int .u16 (r : Int), .int .u16 ((2 ^ y : Nat) : Int)] 58)
    have Y := hide2 yy
    clear yy HO
    generalize 2 ^ y = a at *
    go_wp2
    have y0 := Y.out.1
    have y1 := Y.out.2
    refine bodyPost_ret (v := .tuple #[hd r (y + 1), .bool true]) (by simp [results, Tryd.results25, go_sem, y0, y1, hd, hws]) rfl ⟨rfl, BW⟩

/-- What is no lock word. -/
theorem of_wrong {v : Nat} (hlt : v < 18446744073709551616) (h : Lk.rt v = false) (w : World) :
    Calls Tryd.prog 25 #[.int .u64 (v : Int)] w fun e w' => e = .returned (.tuple #[hd 0 0, .bool false]) ∧ Below w.heap.size w w' := by
  have y := one_new w (.int .u16 0) (.int .u16 0) 58
  have BW := below1 w (.cells #[.int .u16 0, .int .u16 0] 58)
  have Y := hide2 y
  clear y
  by_cases h0 : v / 4294967296 ≤ 16
  · have hdiv : (v : Int) / 4294967296 ≤ 16 := by omega
    obtain ⟨a, ha, ha0⟩ : ∃ a : Nat, bits BinOp.and IntKind.u64 (v : Int) 4294901760 = (a : Int) ∧ ((a : Int) == 0) = false := by
      refine ⟨_, bits_and_u64_nat v 4294901760 hlt (by decide), ?_⟩
      have : v &&& 4294901760 ≠ 0 := fun e => by
        have := mid_zero.1 e
        unfold Lk.rt at h
        simp [this, h0] at h
      simpa using this
    have ha1 : ((a : Int) != 0) = true := by simpa using ha0
    have hd1 : decide ((16 : Int) < (v : Int) / 4294967296) = false := by simpa using hdiv
    have hc : (decide ((16 : Int) < (v : Int) / 4294967296) || ((a : Int) != 0)) = true := by rw [ha1]; simp
    clear h h0 hdiv ha0
    go_enter Tryd.func25, Tryd.ntmps25
    go_wp2
    have y0 := Y.out.1
    have y1 := Y.out.2
    refine bodyPost_ret (v := .tuple #[hd 0 0, .bool false]) (by simp [results, Tryd.results25, go_sem, y0, y1, hd, ws]) rfl ⟨rfl, BW⟩
  · have hdiv : (16 : Int) < (v : Int) / 4294967296 := by omega
    clear h h0
    go_enter Tryd.func25, Tryd.ntmps25
    go_wp2
    have y0 := Y.out.1
    have y1 := Y.out.2
    refine bodyPost_ret (v := .tuple #[hd 0 0, .bool false]) (by simp [results, Tryd.results25, go_sem, y0, y1, hd, ws]) rfl ⟨rfl, BW⟩

/-- asked: what is wrong with the worker, with the word; or what the word says. -/
theorem asked_none {v me : Int} (h : isW me = false) (w : World) :
    Calls Tryd.prog 19 #[.int .u64 v, .int .i64 me] w fun e w' => e = .returned (.tuple #[hd 0 0, .int .i64 2]) ∧ Below w.heap.size w w' := by
  have y := one_new w (.int .u16 0) (.int .u16 0) 58
  have BW := below1 w (.cells #[.int .u16 0, .int .u16 0] 58)
  have Y := hide2 y
  have HI := hide2 (fun w => isWorker_any me w)
  rw [h] at HI
  clear y
  go_enter Tryd.func19, Tryd.ntmps19
  go_wp2_with fail
  refine (HI.out _).mono ?_
  rintro e w1 ⟨rfl, rfl⟩
  go_wp2
  have y0 := Y.out.1
  have y1 := Y.out.2
  refine bodyPost_ret (v := .tuple #[hd 0 0, .int .i64 2]) (by simp [results, Tryd.results19, go_sem, y0, y1, hd, ws]) rfl ⟨rfl, BW⟩

theorem asked_form {v : Nat} {me : Int} (h : isW me = true) (hlt : v < 18446744073709551616) (hv : Lk.rt v = false) (w : World) :
    Calls Tryd.prog 19 #[.int .u64 (v : Int), .int .i64 me] w fun e w' => e = .returned (.tuple #[hd 0 0, .int .i64 130]) ∧ Below w.heap.size w w' := by
  have HI := hide2 (fun w => isWorker_any me w)
  have HO := hide2 (fun w => of_wrong hlt hv w)
  rw [h] at HI
  have hb := World.alloc_heap_new w (.cells #[.int .u16 0, .int .u16 0] 58)
  have B0 := hide2 (below1 w (.cells #[.int .u16 0, .int .u16 0] 58))
  have hs0 : (w.alloc (.cells #[.int .u16 0, .int .u16 0] 58)).heap.size = w.heap.size + 1 := by simp
  have HB := hide2 hb
  have HS := hide2 hs0
  clear hb hs0
  go_enter Tryd.func19, Tryd.ntmps19
  go_wp2_with fail
  refine (HI.out _).mono ?_
  rintro e w1 ⟨rfl, rfl⟩
  go_wp2_with fail
  refine (HO.out _).mono ?_
  rintro e w1 ⟨rfl, hw1⟩
  have hz : w.heap.size < w1.heap.size := by have := hw1.size; rw [HS.out] at this; omega
  have hb1 : w1.heap[w.heap.size]? = some (.cells #[.int .u16 0, .int .u16 0] 58 (0, 0)) := (hw1.block _ (by rw [HS.out]; omega)).trans HB.out
  have hb2 : (w1.alloc (.cells #[.int .u16 0, .int .u16 0] 58)).heap[w.heap.size]? = some (.cells #[.int .u16 0, .int .u16 0] 58 (0, 0)) := (Below.heap_alloc _ _ _ hz).trans hb1
  have c0 : (w1.alloc (.cells #[.int .u16 0, .int .u16 0] 58)).cell? ⟨w.heap.size, 0, none⟩ = some (.int .u16 0) := Go.Joins.cell_of_block hb2 0
  have c1 : (w1.alloc (.cells #[.int .u16 0, .int .u16 0] 58)).cell? ⟨w.heap.size, 1, none⟩ = some (.int .u16 0) := Go.Joins.cell_of_block hb2 1
  have f0 := Go.Joins.unfrozen_of_block hb2 0
  have f1 := Go.Joins.unfrozen_of_block hb2 1
  have B1 := hide2 ((((B0.out.trans (hw1.mono (by rw [HS.out]; omega))).alloc (Nat.le_of_lt hz) (.cells #[.int .u16 0, .int .u16 0] 58)).setCell (p := ⟨w.heap.size, 0, none⟩) (Nat.le_refl _) (.int .u16 0)).setCell (p := ⟨w.heap.size, 1, none⟩) (Nat.le_refl _) (.int .u16 0))
  have HB2 := hide2 hb2
  have HZ2 := hide2 hz
  clear hw1 hb1 HB HS hz hb2
  unfold hd
  have hws0 : ((ws 0 : Nat) : Int) = 0 := rfl
  go_wp2
  have y0 := (two_set HB2.out (.int .u16 0) (.int .u16 0)).1
  have y1 := (two_set HB2.out (.int .u16 0) (.int .u16 0)).2
  refine bodyPost_ret (v := .tuple #[hd 0 0, .int .i64 130]) (by simp [results, Tryd.results19, go_sem, y0, y1, hd, hws0]) rfl ⟨rfl, B1.out⟩

theorem asked_right {v r x : Nat} {me : Int} (h : isW me = true) (hv : Lk.Wo v r x) (w : World) :
    Calls Tryd.prog 19 #[.int .u64 (v : Int), .int .i64 me] w fun e w' => e = .returned (.tuple #[hd r x, .int .i64 0]) ∧ Below w.heap.size w w' := by
  have HI := hide2 (fun w => isWorker_any me w)
  have HO := hide2 (fun w => of_right hv w)
  rw [h] at HI
  have hb := World.alloc_heap_new w (.cells #[.int .u16 0, .int .u16 0] 58)
  have B0 := hide2 (below1 w (.cells #[.int .u16 0, .int .u16 0] 58))
  have hs0 : (w.alloc (.cells #[.int .u16 0, .int .u16 0] 58)).heap.size = w.heap.size + 1 := by simp
  have HB := hide2 hb
  have HS := hide2 hs0
  clear hb hs0
  go_enter Tryd.func19, Tryd.ntmps19
  go_wp2_with fail
  refine (HI.out _).mono ?_
  rintro e w1 ⟨rfl, rfl⟩
  go_wp2_with fail
  refine (HO.out _).mono ?_
  rintro e w1 ⟨rfl, hw1⟩
  have hz : w.heap.size < w1.heap.size := by have := hw1.size; rw [HS.out] at this; omega
  have hb1 : w1.heap[w.heap.size]? = some (.cells #[.int .u16 0, .int .u16 0] 58 (0, 0)) := (hw1.block _ (by rw [HS.out]; omega)).trans HB.out
  have hb2 : (w1.alloc (.cells #[.int .u16 (r : Int), .int .u16 (ws x : Int)] 58)).heap[w.heap.size]? = some (.cells #[.int .u16 0, .int .u16 0] 58 (0, 0)) := (Below.heap_alloc _ _ _ hz).trans hb1
  have c0 : (w1.alloc (.cells #[.int .u16 (r : Int), .int .u16 (ws x : Int)] 58)).cell? ⟨w.heap.size, 0, none⟩ = some (.int .u16 0) := Go.Joins.cell_of_block hb2 0
  have c1 : (w1.alloc (.cells #[.int .u16 (r : Int), .int .u16 (ws x : Int)] 58)).cell? ⟨w.heap.size, 1, none⟩ = some (.int .u16 0) := Go.Joins.cell_of_block hb2 1
  have f0 := Go.Joins.unfrozen_of_block hb2 0
  have f1 := Go.Joins.unfrozen_of_block hb2 1
  have B1 := hide2 ((((B0.out.trans (hw1.mono (by rw [HS.out]; omega))).alloc (Nat.le_of_lt hz) (.cells #[.int .u16 (r : Int), .int .u16 (ws x : Int)] 58)).setCell (p := ⟨w.heap.size, 0, none⟩) (Nat.le_refl _) (.int .u16 (r : Int))).setCell (p := ⟨w.heap.size, 1, none⟩) (Nat.le_refl _) (.int .u16 (ws x : Int)))
  have HB2 := hide2 hb2
  have HZ2 := hide2 hz
  clear hw1 hb1 HB HS hz hb2
  unfold hd
  have hws0 : ((ws 0 : Nat) : Int) = 0 := rfl
  go_wp2
  have y0 := (two_set HB2.out (.int .u16 (r : Int)) (.int .u16 (ws x : Int))).1
  have y1 := (two_set HB2.out (.int .u16 (r : Int)) (.int .u16 (ws x : Int))).2
  refine bodyPost_ret (v := .tuple #[hd r x, .int .i64 0]) (by simp [results, Tryd.results19, go_sem, y0, y1, hd, hws0]) rfl ⟨rfl, B1.out⟩

theorem against_any {r x me : Nat} {wr : Bool} (hr : r < 65536) (hx : x ≤ 16) (hm : me < 16) (w : World) :
    Calls Tryd.prog 20 #[hd r x, .int .i64 (me : Int), .bool wr] w fun e w' => e = .returned (.int .u16 (wo (if wr then ws x ||| r else ws x) (2 ^ me) : Int)) ∧ Below w.heap.size w w' := by
  have HO := hide2 (fun w => only_any me hm w)
  have hp := pow16_lt hm
  have hws := ws_lt hx
  have BW := hide2 (below1 w (.cells #[.int .u16 (r : Int), .int .u16 (ws x : Int)] 58))
  have ho := or16 hws hr
  have hol := or_lt16 hws hr
  have hn := andNot16 (a := ws x) (b := 2 ^ me) hws hp
  have hn2 := andNot16 (a := ws x ||| r) (b := 2 ^ me) hol hp
  unfold hd
  cases wr with
  | false =>
    simp only [Bool.false_eq_true, if_false]
    generalize ws x = a at *
    generalize wo a (2 ^ me) = b at *
    generalize 2 ^ me = c at *
    go_enter Tryd.func20, Tryd.ntmps20
    go_wp2_with fail
    refine (HO.out _).mono ?_
    rintro e w1 ⟨rfl, rfl⟩
    go_wp2
    go_ret
    exact ⟨rfl, BW.out⟩
  | true =>
    simp only [if_true]
    generalize hq : ws x ||| r = q at *
    generalize ws x = a at *
    generalize wo q (2 ^ me) = b at *
    generalize 2 ^ me = c at *
    clear hq
    go_enter Tryd.func20, Tryd.ntmps20
    go_wp2_with fail
    refine (HO.out _).mono ?_
    rintro e w1 ⟨rfl, rfl⟩
    go_wp2
    go_ret
    exact ⟨rfl, BW.out⟩

theorem wordEq {r x : Nat} (hr : r < 65536) (hx : x ≤ 16) : bits BinOp.or IntKind.u64 ((x : Int) * 4294967296) (r : Int) = ((r + 4294967296 * x : Nat) : Int) := by
  have h := bits_or_u64_nat (x * 4294967296) r (by omega) (by omega)
  have e : x * 4294967296 ||| r = r + 4294967296 * x := by
    have : x * 4294967296 = 2 ^ 32 * x := by omega
    rw [this, ← Nat.two_pow_add_eq_or_of_lt (by omega : r < 2 ^ 32) x]
    omega
  rw [e] at h
  rw [← h]
  congr 1

theorem word_any {r x : Nat} (hr : r < 65536) (hx : x ≤ 16) (w : World) :
    Calls Tryd.prog 21 #[hd r x] w fun e w' => e = .returned (.int .u64 ((r + 4294967296 * x : Nat) : Int)) ∧ Below w.heap.size w w' := by
  have HL := hide2 (fun w => len_any x hx w)
  have BW := hide2 (below1 w (.cells #[.int .u16 (r : Int), .int .u16 (ws x : Int)] 58))
  have he := wordEq hr hx
  have HE := hide2 he
  have hx2 : (x : Int) ≤ 16 := by omega
  have hr2 : (r : Int) < 65536 := by omega
  clear he
  unfold hd
  generalize ws x = a at *
  go_enter Tryd.func21, Tryd.ntmps21
  go_wp2_with fail
  go_quiet ((go_at_call 26; exact Calls.quiet_of_same (HL.out _)))
  rw [HE.out]
  go_wp2
  go_ret
  exact ⟨rfl, below_drewN BW.out nq⟩

/-! Read, Write, Leave. -/

theorem read_none {v me : Int} (h : isW me = false) (w : World) :
    Calls Tryd.prog 12 #[.int .u64 v, .int .i64 me] w fun e w' => e = .returned (.tuple #[.int .u64 0, .bool false, .int .i64 2]) ∧ Below w.heap.size w w' := by
  have HA := hide2 (asked_none (v := v) h w)
  go_enter Tryd.func12, Tryd.ntmps12
  go_wp2_with fail
  refine HA.out.mono ?_
  rintro e w1 ⟨rfl, hw1⟩
  have B1 := hide2 (hw1.alloc hw1.size (.cells #[.int .u16 0, .int .u16 0] 58))
  clear hw1
  unfold hd
  have hws0 : ((ws 0 : Nat) : Int) = 0 := rfl
  go_wp2
  go_ret3
  exact ⟨rfl, B1.out⟩
theorem read_form {v : Nat} {me : Int} (h : isW me = true) (hlt : v < 18446744073709551616) (hv : Lk.rt v = false) (w : World) :
    Calls Tryd.prog 12 #[.int .u64 (v : Int), .int .i64 me] w fun e w' => e = .returned (.tuple #[.int .u64 0, .bool false, .int .i64 130]) ∧ Below w.heap.size w w' := by
  have HA := hide2 (asked_form h hlt hv w)
  go_enter Tryd.func12, Tryd.ntmps12
  go_wp2_with fail
  refine HA.out.mono ?_
  rintro e w1 ⟨rfl, hw1⟩
  have B1 := hide2 (hw1.alloc hw1.size (.cells #[.int .u16 0, .int .u16 0] 58))
  clear hw1
  unfold hd
  have hws0 : ((ws 0 : Nat) : Int) = 0 := rfl
  go_wp2
  go_ret3
  exact ⟨rfl, B1.out⟩

/-- Who is in the way. -/
def inw (r x me : Nat) (wr : Bool) : Nat := wo (if wr then ws x ||| r else ws x) (2 ^ me)
theorem inw_lt {r x me : Nat} {wr : Bool} (hr : r < 65536) (hx : x ≤ 16) : inw r x me wr < 65536 := by
  unfold inw
  cases wr with
  | false => exact wo_lt (ws_lt hx)
  | true => exact wo_lt (or_lt16 (ws_lt hx) hr)
theorem inw_bit {r x me k : Nat} {wr : Bool} (hr : r < 65536) (hx : x ≤ 16) (hm : me < 16) : (inw r x me wr).testBit k = ((x == k + 1 || wr && r.testBit k) && !(k == me)) := by
  unfold inw
  have hp := pow16_lt hm
  have e : (decide (me = k)) = (k == me) := by
    by_cases h : me = k
    · subst h; simp
    · simp [h]; exact fun q => h q.symm
  cases wr with
  | false => simp only [Bool.false_eq_true, if_false]; rw [wo_bit (ws_lt hx) hp, ws_bit, Nat.testBit_two_pow, e]; simp
  | true => simp only [if_true]; rw [wo_bit (or_lt16 (ws_lt hx) hr) hp, Nat.testBit_or, ws_bit, Nat.testBit_two_pow, e]; simp
theorem inw_rds {v r x me : Nat} {wr : Bool} (h : Lk.Wo v r x) (hm : me < 16) : Lk.rds (inw r x me wr) = Lk.agn v me wr := by
  unfold Lk.rds Lk.agn
  refine List.filter_congr (fun k hk => ?_)
  have hk := List.mem_range.1 hk
  rw [inw_bit h.r h.x hm, h.div, h.bit (by omega), Bool.and_comm]
theorem inw_zero {v r x me : Nat} {wr : Bool} (h : Lk.Wo v r x) (hm : me < 16) : inw r x me wr = 0 ↔ Lk.agn v me wr = [] := by
  rw [← inw_rds h hm, rds_nil (inw_lt h.r h.x)]

theorem or_bit {r me : Nat} : r ||| 2 ^ me = Lk.rdd r me := by
  apply Nat.eq_of_testBit_eq
  intro k
  rw [Nat.testBit_or, Nat.testBit_two_pow, Lk.rdd_bit]
  by_cases h : me = k
  · subst h; simp
  · have : k ≠ me := fun q => h q.symm
    simp [h, this]

theorem read_way {v r x me : Nat} (hv : Lk.Wo v r x) (hm : me < 16) (ha : Lk.agn v me false ≠ []) (w : World) :
    Calls Tryd.prog 12 #[.int .u64 (v : Int), .int .i64 (me : Int)] w fun e w' => e = .returned (.tuple #[.int .u64 0, .bool false, .int .i64 0]) ∧ Below w.heap.size w w' := by
  have HA := hide2 (asked_right (isW_nat hm) hv w)
  have HG := hide2 (fun w => against_any (wr := false) hv.r hv.x hm w)
  have hz : ((inw r x me false : Int) != 0) = true := by
    have : inw r x me false ≠ 0 := fun e => ha ((inw_zero hv hm).1 e)
    simpa using this
  have hinw : wo (if false = true then ws x ||| r else ws x) (2 ^ me) = inw r x me false := rfl
  rw [hinw] at HG
  unfold hd at HA HG
  generalize inw r x me false = a at *
  generalize ws x = b at *
  clear hinw ha
  go_enter Tryd.func12, Tryd.ntmps12
  go_wp2_with fail
  refine HA.out.mono ?_
  rintro e w1 ⟨rfl, hw1⟩
  have B1 := hide2 (hw1.alloc hw1.size (.cells #[.int .u16 (r : Int), .int .u16 (b : Int)] 58))
  have hz1 := hw1.size
  clear hw1 HA
  go_wp2_with fail
  refine (HG.out _).mono ?_
  rintro e w2 ⟨rfl, hw2⟩
  have B2 := hide2 (B1.out.trans (hw2.mono (by simp; omega)))
  clear hw2
  go_wp2
  go_ret3
  exact ⟨rfl, B2.out⟩

theorem read_ok {v r x me : Nat} (hv : Lk.Wo v r x) (hm : me < 16) (ha : Lk.agn v me false = []) (w : World) :
    Calls Tryd.prog 12 #[.int .u64 (v : Int), .int .i64 (me : Int)] w fun e w' => e = .returned (.tuple #[.int .u64 (Lk.rdd v me : Int), .bool true, .int .i64 0]) ∧ Below w.heap.size w w' := by
  have HA := hide2 (asked_right (isW_nat hm) hv w)
  have HG := hide2 (fun w => against_any (wr := false) hv.r hv.x hm w)
  have HO := hide2 (fun w => only_any me hm w)
  have hz : inw r x me false = 0 := (inw_zero hv hm).2 ha
  have hinw : wo (if false = true then ws x ||| r else ws x) (2 ^ me) = inw r x me false := rfl
  rw [hinw, hz] at HG
  have hor := or16 hv.r (pow16_lt hm)
  rw [or_bit] at hor
  have HW := hide2 (fun w => word_any (Lk.rdd_lt hv.r hm) hv.x w)
  have hR := (hv.read hm).eq
  rw [← hR] at HW
  unfold hd at HA HG HW
  generalize ws x = b at *
  generalize Lk.rdd r me = c at *
  generalize Lk.rdd v me = d at *
  generalize 2 ^ me = q at *
  clear hinw ha hR hz
  go_enter Tryd.func12, Tryd.ntmps12
  go_wp2_with fail
  refine HA.out.mono ?_
  rintro e w1 ⟨rfl, hw1⟩
  have hz1 := hw1.size
  have hbl := World.alloc_heap_new w1 (.cells #[.int .u16 (r : Int), .int .u16 (b : Int)] 58)
  have B1 := hide2 (hw1.alloc hw1.size (.cells #[.int .u16 (r : Int), .int .u16 (b : Int)] 58))
  have HBL := hide2 hbl
  clear hw1 HA hbl
  go_wp2_with fail
  refine (HG.out _).mono ?_
  rintro e w2 ⟨rfl, hw2⟩
  have B2 := hide2 (B1.out.trans (hw2.mono (by simp; omega)))
  have hb2 : w2.heap[w1.heap.size]? = some (.cells #[.int .u16 (r : Int), .int .u16 (b : Int)] 58 (0, 0)) := (hw2.block _ (by simp)).trans HBL.out
  have c0 : w2.cell? ⟨w1.heap.size, 0, none⟩ = some (.int .u16 (r : Int)) := Go.Joins.cell_of_block hb2 0
  have c1 : w2.cell? ⟨w1.heap.size, 1, none⟩ = some (.int .u16 (b : Int)) := Go.Joins.cell_of_block hb2 1
  have f0 := Go.Joins.unfrozen_of_block hb2 0
  have f1 := Go.Joins.unfrozen_of_block hb2 1
  clear hw2 hb2 HBL
  go_wp2_with fail
  go_region_with (go_at_call 14; refine (HO.out _).mono ?_; rintro e w' ⟨rfl, rfl⟩)
  all_goals
    have B3 := hide2 ((B2.out.setCell (p := ⟨w1.heap.size, 0, none⟩) hz1 (.int .u16 (c : Int))).drew)
    have hz3 : w.heap.size ≤ (w2.setCell ⟨w1.heap.size, 0, none⟩ (.int .u16 (c : Int))).drew.heap.size := B3.out.size
    have HZ3 := hide2 hz3
    clear hz3
    go_wp2_with fail
    refine (HW.out _).mono ?_
    rintro e w4 ⟨rfl, hw4⟩
    have B4 := hide2 (B3.out.trans (hw4.mono HZ3.out))
    clear hw4
    go_wp2
    go_ret3
    exact ⟨rfl, B4.out⟩
end
end Go.Proofs.YtafbchjmjfpilaaDoor
