/-
  Lb2: Leave, Readers, Writer; are two rows the same?
-/
import Derived.Test.YtbmgclnhooaniaaDoorLb1
import Derived.Test.YtbmgclnhooaniaaDoorSeq
set_option linter.unusedVariables false
set_option linter.unusedSimpArgs false
namespace Go.Proofs.YtbmgclnhooaniaaDoor
open Go.RowKit

section
set_option maxHeartbeats 2000000
set_option maxRecDepth 100000
theorem leave_none {v me : Int} (h : isW me = false) (w : World) :
    Calls Tryd.prog 14 #[.int .u64 v, .int .i64 me] w fun e w' => e = .returned (.tuple #[.int .u64 0, .int .i64 2]) ∧ Below w.heap.size w w' := by
  have HA := hide2 (asked_none (v := v) h w)
  go_enter Tryd.func14, Tryd.ntmps14
  go_wp2_with fail
  refine HA.out.mono ?_
  rintro e w1 ⟨rfl, hw1⟩
  have B1 := hide2 (hw1.alloc hw1.size (.cells #[.int .u16 0, .int .u16 0] 58))
  clear hw1
  unfold hd
  have hws0 : ((ws 0 : Nat) : Int) = 0 := rfl
  go_wp2
  go_ret2
  exact ⟨rfl, B1.out⟩
theorem leave_form {v : Nat} {me : Int} (h : isW me = true) (hlt : v < 18446744073709551616) (hv : Lk.rt v = false) (w : World) :
    Calls Tryd.prog 14 #[.int .u64 (v : Int), .int .i64 me] w fun e w' => e = .returned (.tuple #[.int .u64 0, .int .i64 130]) ∧ Below w.heap.size w w' := by
  have HA := hide2 (asked_form h hlt hv w)
  go_enter Tryd.func14, Tryd.ntmps14
  go_wp2_with fail
  refine HA.out.mono ?_
  rintro e w1 ⟨rfl, hw1⟩
  have B1 := hide2 (hw1.alloc hw1.size (.cells #[.int .u16 0, .int .u16 0] 58))
  clear hw1
  unfold hd
  have hws0 : ((ws 0 : Nat) : Int) = 0 := rfl
  go_wp2
  go_ret2
  exact ⟨rfl, B1.out⟩


theorem wo_one {r me : Nat} (hr : r < 65536) (hm : me < 16) : wo r (2 ^ me) = Lk.lvr r me := by
  apply Nat.eq_of_testBit_eq
  intro k
  rw [wo_bit hr (pow16_lt hm), Nat.testBit_two_pow, Lk.lvr_bit]
  by_cases h : me = k
  · subst h; simp
  · have : k ≠ me := fun q => h q.symm
    simp [h, this]
theorem wo_ws {x me : Nat} (hx : x ≤ 16) (hm : me < 16) : wo (ws x) (2 ^ me) = ws (if x = me + 1 then 0 else x) := by
  apply Nat.eq_of_testBit_eq
  intro k
  rw [wo_bit (ws_lt hx) (pow16_lt hm), ws_bit, ws_bit, Nat.testBit_two_pow]
  by_cases h : me = k
  · subst h
    by_cases q : x = me + 1
    · simp [q]
    · simp [q]
  · by_cases q : x = me + 1
    · subst q
      have : ¬ me + 1 = k + 1 := by omega
      simp [h, this]
    · simp [h, q]

theorem leave_ok {v r x me : Nat} (hv : Lk.Wo v r x) (hm : me < 16) (w : World) :
    Calls Tryd.prog 14 #[.int .u64 (v : Int), .int .i64 (me : Int)] w fun e w' => e = .returned (.tuple #[.int .u64 (Lk.lvd v me : Int), .int .i64 0]) ∧ Below w.heap.size w w' := by
  have HA := hide2 (asked_right (isW_nat hm) hv w)
  have HO := hide2 (fun w => only_any me hm w)
  have hl := hv.leave hm
  have HW := hide2 (fun w => word_any hl.r hl.x w)
  rw [← hl.eq] at HW
  have hn := andNot16 (a := r) hv.r (pow16_lt hm)
  have hn2 := andNot16 (a := ws x) (ws_lt hv.x) (pow16_lt hm)
  rw [wo_one hv.r hm] at hn
  rw [wo_ws hv.x hm] at hn2
  unfold hd at HA HW
  generalize ws (if x = me + 1 then 0 else x) = f at *
  generalize ws x = b at *
  generalize Lk.lvr r me = c at *
  generalize Lk.lvd v me = d at *
  generalize 2 ^ me = q at *
  clear hl
  go_enter Tryd.func14, Tryd.ntmps14
  go_wp2_with fail
  refine HA.out.mono ?_
  rintro e w1 ⟨rfl, hw1⟩
  have hz1 := hw1.size
  have HW1 := hide2 hw1
  clear hw1 HA
  go_wp2_with fail
  go_region_with (go_at_call 32; refine (HO.out _).mono ?_; rintro e w' ⟨rfl, rfl⟩)
  all_goals
    have hb5 : (w1.alloc (.cells #[.int .u16 (c : Int), .int .u16 (b : Int)] 58)).drew.heap[w1.heap.size]? = some (.cells #[.int .u16 (c : Int), .int .u16 (b : Int)] 58 (0, 0)) := World.alloc_heap_new w1 _
    have B5 : Below w.heap.size w (w1.alloc (.cells #[.int .u16 (c : Int), .int .u16 (b : Int)] 58)).drew := (HW1.out.alloc hz1 _).drew
    obtain ⟨W5, hW5⟩ : ∃ W, (w1.alloc (.cells #[.int .u16 (c : Int), .int .u16 (b : Int)] 58)).drew = W := ⟨_, rfl⟩
    rw [hW5] at hb5 B5 ⊢
    clear hW5
    have c0 : W5.cell? ⟨w1.heap.size, 0, none⟩ = some (.int .u16 (c : Int)) := Go.Joins.cell_of_block hb5 0
    have c1 : W5.cell? ⟨w1.heap.size, 1, none⟩ = some (.int .u16 (b : Int)) := Go.Joins.cell_of_block hb5 1
    have f0 := Go.Joins.unfrozen_of_block hb5 0
    have f1 := Go.Joins.unfrozen_of_block hb5 1
    have HB5 := hide2 B5
    clear hb5 B5
    go_wp2_with fail
    go_region_with (go_at_call 32; refine (HO.out _).mono ?_; rintro e w' ⟨rfl, rfl⟩)
    all_goals
      have B6 := hide2 ((HB5.out.setCell (p := ⟨w1.heap.size, 1, none⟩) hz1 (.int .u16 (f : Int))).drew)
      have HZ6 := hide2 B6.out.size
      go_wp2_with fail
      refine (HW.out _).mono ?_
      rintro e w7 ⟨rfl, hw7⟩
      have B7 := hide2 (B6.out.trans (hw7.mono HZ6.out))
      clear hw7
      go_wp2
      go_ret2
      exact ⟨rfl, B7.out⟩

/-- What a call of Leave answers; who reads, who writes. -/
def lvV (v : Nat) (me : Int) : Nat × Int := if isW me = false then (0, 2) else if Lk.rt v = false then (0, 130) else (Lk.lvd v me.toNat, 0)
theorem Leave_any {v : Nat} {me : Int} (hlt : v < 18446744073709551616) (w : World) :
    Calls Tryd.prog 14 #[.int .u64 (v : Int), .int .i64 me] w fun e w' => e = .returned (.tuple #[.int .u64 ((lvV v me).1 : Int), .int .i64 (lvV v me).2]) ∧ Below w.heap.size w w' := by
  unfold lvV
  by_cases h : isW me = false
  · rw [if_pos h]; exact leave_none h w
  · rw [if_neg h]
    have h1 := notFalse h
    obtain ⟨e, hm⟩ := isW_toNat h1
    by_cases hr : Lk.rt v = false
    · rw [if_pos hr]; exact leave_form h1 hlt hr w
    · rw [if_neg hr]
      have := leave_ok (Lk.rt_iff.1 (notFalse hr)) hm w
      rwa [e] at this

theorem readers_raw {v r x : Nat} {b : Bool} (hr : r < 65536) (hof : ∀ w, Calls Tryd.prog 36 #[.int .u64 (v : Int)] w fun e w' => e = .returned (.tuple #[hd r x, .bool b]) ∧ Below w.heap.size w w') (w : World) (hT : Tab w) :
    Calls Tryd.prog 19 #[.int .u64 (v : Int)] w fun e w' => ∃ u, e = .returned u ∧ Hr w' w.heap.size u (Lk.rds r) ∧ Below w.heap.size w w' := by
  have HA := hide2 (hof w)
  have HL := hide2 (fun (w : World) hT hB hc => collect_any w.heap.size r hr (w.alloc (.cells #[.int .u16 (r : Int)] 56)) hT hB hc)
  have HT := hide2 hT
  unfold hd at HA
  generalize ws x = a at *
  clear hT hof
  go_enter Tryd.func19, Tryd.ntmps19
  go_wp2_with fail
  refine HA.out.mono ?_
  rintro e w1 ⟨rfl, hw1⟩
  have B2 := hide2 (hw1.alloc hw1.size (.cells #[.int .u16 (r : Int), .int .u16 (a : Int)] 58))
  clear hw1 HA
  go_wp2_with fail
  obtain ⟨W2, hW2⟩ : ∃ W, w1.alloc (.cells #[.int .u16 (r : Int), .int .u16 (a : Int)] 58) = W := ⟨_, rfl⟩
  rw [hW2] at B2 ⊢
  clear hW2
  refine (all_any _ _).mono ?_
  rintro e w3 ⟨rfl, rfl⟩
  have bx := Boxed.new W2 56 (.int .u16 (r : Int))
  have B3 := hide2 (B2.out.alloc B2.out.size (.cells #[.int .u16 (r : Int)] 56))
  have HC := hide2 (HL.out _ (HT.out.keep B3.out) bx.lt bx.cell)
  clear bx HL B2
  go_wp2_with fail
  refine HC.out.mono ?_
  rintro e w4 ⟨u, rfl, hr, hw4⟩
  have HR := hide2 hr
  have B4 := hide2 (B3.out.trans (hw4.mono B3.out.size))
  have HZ := hide2 B3.out.size
  clear hr hw4 HC
  go_wp2
  go_ret
  exact ⟨u, rfl, HR.out.low HZ.out, B4.out⟩
def rsV (v : Nat) : List Nat := if Lk.rt v = false then [] else Lk.rds v
theorem rds_wo {v r x : Nat} (h : Lk.Wo v r x) : Lk.rds v = Lk.rds r := by
  unfold Lk.rds
  exact List.filter_congr (fun k hk => h.bit (by have := List.mem_range.1 hk; omega))
theorem Readers_any {v : Nat} (hlt : v < 18446744073709551616) (w : World) (hT : Tab w) :
    Calls Tryd.prog 19 #[.int .u64 (v : Int)] w fun e w' => ∃ u, e = .returned u ∧ Hr w' w.heap.size u (rsV v) ∧ Below w.heap.size w w' := by
  unfold rsV
  by_cases hr : Lk.rt v = false
  · rw [if_pos hr]
    have := readers_raw (r := 0) (x := 0) (by decide) (fun w => of_wrong hlt hr w) w hT
    rwa [rds_zero] at this
  · rw [if_neg hr]
    have h := Lk.rt_iff.1 (notFalse hr)
    rw [rds_wo h]
    exact readers_raw h.r (fun w => of_right h w) w hT

def wtV (v : Nat) : Nat × Bool := if Lk.rt v = false then (0, false) else (v / 4294967296 - 1, decide (v / 4294967296 ≠ 0))
theorem writer_no {v r : Nat} {b : Bool} (hof : ∀ w, Calls Tryd.prog 36 #[.int .u64 (v : Int)] w fun e w' => e = .returned (.tuple #[hd r 0, .bool b]) ∧ Below w.heap.size w w') (w : World) :
    Calls Tryd.prog 16 #[.int .u64 (v : Int)] w fun e w' => e = .returned (.tuple #[.int .i64 0, .bool false]) ∧ Below w.heap.size w w' := by
  have HA := hide2 (hof w)
  clear hof
  unfold hd at HA
  have hws0 : ((ws 0 : Nat) : Int) = 0 := rfl
  rw [hws0] at HA
  go_enter Tryd.func16, Tryd.ntmps16
  go_wp2_with fail
  refine HA.out.mono ?_
  rintro e w1 ⟨rfl, hw1⟩
  have B2 := hide2 (hw1.alloc hw1.size (.cells #[.int .u16 (r : Int), .int .u16 0] 58))
  clear hw1 HA
  go_wp2
  go_ret2
  exact ⟨rfl, B2.out⟩
theorem writer_yes {v r y : Nat} (h : Lk.Wo v r (y + 1)) (w : World) (hT : Tab w) :
    Calls Tryd.prog 16 #[.int .u64 (v : Int)] w fun e w' => e = .returned (.tuple #[.int .i64 (y : Int), .bool true]) ∧ Below w.heap.size w w' := by
  have HA := hide2 (of_right h w)
  have hy : y < 16 := by have := h.x; omega
  have hws : ws (y + 1) = 2 ^ y := by unfold ws; simp
  have hp := pow16_lt hy
  have hp0 := Nat.two_pow_pos y
  have HZ := hide2 (fun w hT => tz_any (x := 2 ^ y) (k := y) (m := 0) ⟨by simp, hy⟩ hp w hT)
  have HT := hide2 hT
  unfold hd at HA
  rw [hws] at HA
  clear hT hws
  generalize 2 ^ y = a at *
  have ha : ((a : Int) == 0) = false := by simp; omega
  go_enter Tryd.func16, Tryd.ntmps16
  go_wp2_with fail
  refine HA.out.mono ?_
  rintro e w1 ⟨rfl, hw1⟩
  have B2 := hide2 (hw1.alloc hw1.size (.cells #[.int .u16 (r : Int), .int .u16 (a : Int)] 58))
  clear hw1 HA
  go_wp2_with fail
  refine (HZ.out _ (HT.out.keep B2.out)).mono ?_
  rintro e w2 ⟨rfl, rfl⟩
  go_wp2
  go_ret2
  exact ⟨rfl, B2.out⟩
theorem Writer_any {v : Nat} (hlt : v < 18446744073709551616) (w : World) (hT : Tab w) :
    Calls Tryd.prog 16 #[.int .u64 (v : Int)] w fun e w' => e = .returned (.tuple #[.int .i64 ((wtV v).1 : Int), .bool (wtV v).2]) ∧ Below w.heap.size w w' := by
  unfold wtV
  by_cases hr : Lk.rt v = false
  · rw [if_pos hr]
    exact writer_no (fun w => of_wrong hlt hr w) w
  · rw [if_neg hr]
    have h := Lk.rt_iff.1 (notFalse hr)
    generalize v / 4294967296 = x at h ⊢
    cases x with
    | zero => exact writer_no (fun w => of_right h w) w
    | succ y =>
      have := writer_yes h w hT
      simpa using this

/-- Two rows that are the same. -/
def nvl (n : Nat) : List Value := [nv n]
theorem Hr.seq {w : World} {base : Nat} {ao : Option Addr} {cap : Nat} {l : List Nat} (h : Hr w base (.slice ao l.length cap) l) : Seq 1 nvl w ao l.length cap l := by
  have hm : l.length ≤ cap ∧ cap ≤ maxLen := by
    rcases h.2 with ⟨e, h0⟩ | ⟨g, cap', cur, e, _, _, h1, h2, _⟩
    · injection e with e1 e2 e3
      rw [e3]; exact ⟨by omega, Nat.zero_le _⟩
    · injection e with e1 e2 e3
      rw [e3]; exact ⟨h1, h2⟩
  refine ⟨rfl, hm.1, hm.2, fun hl => ?_⟩
  obtain ⟨g, e, _, hg, hc⟩ := h.cell hl
  refine ⟨g, 0, e, hg, fun i x hi j u hu => ?_⟩
  have hi2 := (List.getElem?_eq_some_iff.1 hi).1
  have h1 := hc i hi2
  cases j with
  | zero =>
    simp only [nvl, List.getElem?_cons_zero, Option.some.injEq] at hu
    subst hu
    simp only [List.getD, hi, Option.getD_some] at h1
    simpa using h1
  | succ j => simp [nvl] at hu

theorem ints_same {w : World} {ao bo : Option Addr} {c1 c2 : Nat} {l : List Nat} {len : Nat} (h1 : Seq 1 nvl w ao len c1 l) (h2 : Seq 1 nvl w bo len c2 l) :
    Calls Tryd.prog 18 #[.slice ao len c1, .slice bo len c2] w fun e w' => e = .returned (.bool true) ∧ ∃ q, w' = w.drewN q := by
  have hcap := h1.2.1
  have hmax := h1.2.2.1
  have hcap2 := h2.2.1
  have hmax2 := h2.2.2.1
  unfold maxLen at hmax hmax2
  have H1 := hide2 h1
  have H2 := hide2 h2
  clear h1 h2
  go_enter Tryd.func18, Tryd.ntmps18
  go_wp2
  go_loopw [5] (fun i wr => ∃ k q : Nat, k ≤ len ∧ i = .int .i64 (k : Nat) ∧ wr = w.drewN q) (fun i _ => len - (intOf i).toNat)
  case atStart => exact ⟨0, 0, Nat.zero_le _, rfl, rfl⟩
  case round =>
    obtain ⟨k, q, hk, rfl, rfl⟩ := hrel
    by_cases hlt : k < len
    · have d1 : decide ((k : Int) < (len : Int)) = true := by simp; omega
      have d2 : (k : Int) < (len : Int) := by omega
      obtain ⟨b, off, rfl, hbl, hcell⟩ := H1.out.2.2.2 (by omega)
      obtain ⟨b2, off2, rfl, hbl2, hcell2⟩ := H2.out.2.2.2 (by omega)
      obtain ⟨x, hx⟩ := some_at H1.out.1 hlt
      have q1 : (w.drewN q).cell? ⟨b, off + k, none⟩ = some (.int .i64 (x : Int)) := by
        show w.cell? _ = _
        have := hcell k x hx 0 _ rfl
        simpa [nv] using this
      have q2 : (w.drewN q).cell? ⟨b2, off2 + k, none⟩ = some (.int .i64 (x : Int)) := by
        show w.cell? _ = _
        have := hcell2 k x hx 0 _ rfl
        simpa [nv] using this
      clear hcell hcell2 hx
      obtain ⟨W, hW⟩ : ∃ x, x = w.drewN q := ⟨_, rfl⟩
      rw [← hW] at q1 q2 ⊢
      have HW := hide2 hW
      clear hW
      go_wp2
      go_quiet (fail)
      go_wp2
      go_roundw
      case rel => exact ⟨k + 1, q + nq, by omega, by go_num, by rw [HW.out]; simp [World.drewN, Nat.add_assoc]⟩
      case measure => simp [intOf]; omega
    · have d1 : decide ((k : Int) < (len : Int)) = false := by simp; omega
      have d2 : ¬ (k : Int) < (len : Int) := by omega
      go_wp2
      go_ret
      exact ⟨rfl, q, rfl⟩
end
end Go.Proofs.YtbmgclnhooaniaaDoor
