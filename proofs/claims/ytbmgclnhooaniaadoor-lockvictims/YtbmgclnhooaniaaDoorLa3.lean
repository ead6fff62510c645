/-
  La3: Write, Leave, Writer; all calls told in one way each.
-/
import Derived.Test.YtbmgclnhooaniaaDoorLa2
set_option linter.unusedVariables false
set_option linter.unusedSimpArgs false
namespace Go.Proofs.YtbmgclnhooaniaaDoor
open Go.RowKit

section
set_option maxHeartbeats 1000000
theorem write_none {v me : Int} (h : isW me = false) (w : World) :
    Calls Tryd.prog 12 #[.int .u64 v, .int .i64 me] w fun e w' => e = .returned (.tuple #[.int .u64 0, .bool false, .int .i64 2]) ∧ Below w.heap.size w w' := by
  have HA := hide2 (asked_none (v := v) h w)
  go_enter Tryd.func12, Tryd.ntmps12
  go_wp2_with fail
  refine HA.out.mono ?_
  rintro e w1 ⟨rfl, hw1⟩
  have B1 := hide2 (hw1.alloc hw1.size (.cells #[.int .u16 0, .int .u16 0] 58))
  clear hw1
  unfold hd
  have hws0 : ((ws 0 : Nat) : Int) = 0 := rfl
  go_wp2
  go_ret3
  exact ⟨rfl, B1.out⟩
theorem write_form {v : Nat} {me : Int} (h : isW me = true) (hlt : v < 18446744073709551616) (hv : Lk.rt v = false) (w : World) :
    Calls Tryd.prog 12 #[.int .u64 (v : Int), .int .i64 me] w fun e w' => e = .returned (.tuple #[.int .u64 0, .bool false, .int .i64 130]) ∧ Below w.heap.size w w' := by
  have HA := hide2 (asked_form h hlt hv w)
  go_enter Tryd.func12, Tryd.ntmps12
  go_wp2_with fail
  refine HA.out.mono ?_
  rintro e w1 ⟨rfl, hw1⟩
  have B1 := hide2 (hw1.alloc hw1.size (.cells #[.int .u16 0, .int .u16 0] 58))
  clear hw1
  unfold hd
  have hws0 : ((ws 0 : Nat) : Int) = 0 := rfl
  go_wp2
  go_ret3
  exact ⟨rfl, B1.out⟩

theorem write_way {v r x me : Nat} (hv : Lk.Wo v r x) (hm : me < 16) (ha : Lk.agn v me true ≠ []) (w : World) :
    Calls Tryd.prog 12 #[.int .u64 (v : Int), .int .i64 (me : Int)] w fun e w' => e = .returned (.tuple #[.int .u64 0, .bool false, .int .i64 0]) ∧ Below w.heap.size w w' := by
  have HA := hide2 (asked_right (isW_nat hm) hv w)
  have HG := hide2 (fun w => against_any (wr := true) hv.r hv.x hm w)
  have hz : ((inw r x me true : Int) != 0) = true := by
    have : inw r x me true ≠ 0 := fun e => ha ((inw_zero hv hm).1 e)
    simpa using this
  have hinw : wo (if true = true then ws x ||| r else ws x) (2 ^ me) = inw r x me true := rfl
  rw [hinw] at HG
  unfold hd at HA HG
  generalize inw r x me true = a at *
  generalize ws x = b at *
  clear hinw ha
  go_enter Tryd.func12, Tryd.ntmps12
  go_wp2_with fail
  refine HA.out.mono ?_
  rintro e w1 ⟨rfl, hw1⟩
  have B1 := hide2 (hw1.alloc hw1.size (.cells #[.int .u16 (r : Int), .int .u16 (b : Int)] 58))
  have hz1 := hw1.size
  clear hw1 HA
  go_wp2_with fail
  refine (HG.out _).mono ?_
  rintro e w2 ⟨rfl, hw2⟩
  have B2 := hide2 (B1.out.trans (hw2.mono (by simp; omega)))
  clear hw2
  go_wp2
  go_ret3
  exact ⟨rfl, B2.out⟩


theorem write_ok {v r x me : Nat} (hv : Lk.Wo v r x) (hm : me < 16) (ha : Lk.agn v me true = []) (w : World) :
    Calls Tryd.prog 12 #[.int .u64 (v : Int), .int .i64 (me : Int)] w fun e w' => e = .returned (.tuple #[.int .u64 (Lk.wtd v me : Int), .bool true, .int .i64 0]) ∧ Below w.heap.size w w' := by
  have HA := hide2 (asked_right (isW_nat hm) hv w)
  have HG := hide2 (fun w => against_any (wr := true) hv.r hv.x hm w)
  have HO := hide2 (fun w => only_any me hm w)
  have hz : inw r x me true = 0 := (inw_zero hv hm).2 ha
  have hinw : wo (if true = true then ws x ||| r else ws x) (2 ^ me) = inw r x me true := rfl
  rw [hinw, hz] at HG
  have HW := hide2 (fun w => word_any hv.r (by omega : me + 1 ≤ 16) w)
  have hR := (hv.write hm).eq
  rw [← hR] at HW
  have hws : ws (me + 1) = 2 ^ me := by unfold ws; simp
  unfold hd at HA HG HW
  rw [hws] at HW
  generalize ws x = b at *
  generalize Lk.wtd v me = d at *
  generalize 2 ^ me = q at *
  clear hinw ha hR hz hws
  go_enter Tryd.func12, Tryd.ntmps12
  go_wp2_with fail
  refine HA.out.mono ?_
  rintro e w1 ⟨rfl, hw1⟩
  have hz1 := hw1.size
  have hbl := World.alloc_heap_new w1 (.cells #[.int .u16 (r : Int), .int .u16 (b : Int)] 58)
  have B1 := hide2 (hw1.alloc hw1.size (.cells #[.int .u16 (r : Int), .int .u16 (b : Int)] 58))
  have HBL := hide2 hbl
  clear hw1 HA hbl
  go_wp2_with fail
  refine (HG.out _).mono ?_
  rintro e w2 ⟨rfl, hw2⟩
  have B2 := hide2 (B1.out.trans (hw2.mono (by simp; omega)))
  have hb2 : w2.heap[w1.heap.size]? = some (.cells #[.int .u16 (r : Int), .int .u16 (b : Int)] 58 (0, 0)) := (hw2.block _ (by simp)).trans HBL.out
  have c0 : w2.cell? ⟨w1.heap.size, 0, none⟩ = some (.int .u16 (r : Int)) := Go.Joins.cell_of_block hb2 0
  have c1 : w2.cell? ⟨w1.heap.size, 1, none⟩ = some (.int .u16 (b : Int)) := Go.Joins.cell_of_block hb2 1
  have f0 := Go.Joins.unfrozen_of_block hb2 0
  have f1 := Go.Joins.unfrozen_of_block hb2 1
  clear hw2 hb2 HBL
  go_wp2_with fail
  refine (HO.out _).mono ?_
  rintro e w3 ⟨rfl, rfl⟩
  have B3 := hide2 (B2.out.setCell (p := ⟨w1.heap.size, 1, none⟩) hz1 (.int .u16 (q : Int)))
  have HZ3 := hide2 B3.out.size
  go_wp2_with fail
  refine (HW.out _).mono ?_
  rintro e w4 ⟨rfl, hw4⟩
  have B4 := hide2 (B3.out.trans (hw4.mono HZ3.out))
  clear hw4
  go_wp2
  go_ret3
  exact ⟨rfl, B4.out⟩

/-- What a call of Read, of Write answers. -/
def rdV (v : Nat) (me : Int) : Nat × Bool × Int := if isW me = false then (0, false, 2) else if Lk.rt v = false then (0, false, 130) else if Lk.agn v me.toNat false = [] then (Lk.rdd v me.toNat, true, 0) else (0, false, 0)
def wrV (v : Nat) (me : Int) : Nat × Bool × Int := if isW me = false then (0, false, 2) else if Lk.rt v = false then (0, false, 130) else if Lk.agn v me.toNat true = [] then (Lk.wtd v me.toNat, true, 0) else (0, false, 0)
def ans3 (a : Nat × Bool × Int) : Ending := .returned (.tuple #[.int .u64 (a.1 : Int), .bool a.2.1, .int .i64 a.2.2])
theorem isW_toNat {me : Int} (h : isW me = true) : (me.toNat : Int) = me ∧ me.toNat < 16 := by have := isW_iff.1 h; omega
theorem notFalse {b : Bool} (h : ¬ b = false) : b = true := by cases b with
  | true => rfl
  | false => exact absurd rfl h

theorem Read_any {v : Nat} {me : Int} (hlt : v < 18446744073709551616) (w : World) :
    Calls Tryd.prog 10 #[.int .u64 (v : Int), .int .i64 me] w fun e w' => e = ans3 (rdV v me) ∧ Below w.heap.size w w' := by
  unfold ans3 rdV
  by_cases h : isW me = false
  · rw [if_pos h]; exact read_none h w
  · rw [if_neg h]
    have h1 := notFalse h
    obtain ⟨e, hm⟩ := isW_toNat h1
    by_cases hr : Lk.rt v = false
    · rw [if_pos hr]; exact read_form h1 hlt hr w
    · rw [if_neg hr]
      have hv := Lk.rt_iff.1 (notFalse hr)
      by_cases ha : Lk.agn v me.toNat false = []
      · rw [if_pos ha]
        have := read_ok hv hm ha w
        rwa [e] at this
      · rw [if_neg ha]
        have := read_way hv hm ha w
        rwa [e] at this
theorem Write_any {v : Nat} {me : Int} (hlt : v < 18446744073709551616) (w : World) :
    Calls Tryd.prog 12 #[.int .u64 (v : Int), .int .i64 me] w fun e w' => e = ans3 (wrV v me) ∧ Below w.heap.size w w' := by
  unfold ans3 wrV
  by_cases h : isW me = false
  · rw [if_pos h]; exact write_none h w
  · rw [if_neg h]
    have h1 := notFalse h
    obtain ⟨e, hm⟩ := isW_toNat h1
    by_cases hr : Lk.rt v = false
    · rw [if_pos hr]; exact write_form h1 hlt hr w
    · rw [if_neg hr]
      have hv := Lk.rt_iff.1 (notFalse hr)
      by_cases ha : Lk.agn v me.toNat true = []
      · rw [if_pos ha]
        have := write_ok hv hm ha w
        rwa [e] at this
      · rw [if_neg ha]
        have := write_way hv hm ha w
        rwa [e] at this

/-- The head of each law: a first reader may read. -/
theorem shown_any (w : World) : Calls Tryd.prog 9 #[] w fun e w' => e = .returned (.bool true) ∧ Below w.heap.size w w' := by
  have hr : rdV 0 1 = (2, true, 0) := by decide
  have HR := hide2 (Read_any (v := 0) (me := 1) (by decide) w)
  rw [hr] at HR
  unfold ans3 at HR
  go_enter Tryd.func9, Tryd.ntmps9
  go_wp2_with fail
  refine HR.out.mono ?_
  rintro e w1 ⟨rfl, hw1⟩
  go_wp2
  go_ret
  exact ⟨rfl, hw1⟩
end
end Go.Proofs.YtbmgclnhooaniaaDoor
