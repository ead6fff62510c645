/-
  Lc3: The document's own Read, Write, Leave; readers and the writer come and go, and are told, as the document says (LockWords).
-/
import Derived.Test.YtbmgclnhooaniaaDoorLc2
set_option linter.unusedVariables false
set_option linter.unusedSimpArgs false
namespace Go.Proofs.YtbmgclnhooaniaaDoor
open Go.RowKit

section
set_option maxHeartbeats 4000000
set_option maxRecDepth 100000
theorem pow64 {m : Nat} (hm : m < 16) : IntKind.u64.wrap (2 ^ m) = ((2 ^ m : Nat) : Int) := by
  have := pow16_lt hm
  have e : ((2 : Int) ^ m) = ((2 ^ m : Nat) : Int) := by simp
  rw [IntKind.wrap_u64, e]
  generalize 2 ^ m = a at this
  omega

theorem rread_bad {v : Nat} {me c : Int} (hc : c = 2 ∨ c = 130) (HW : ∀ w, Calls Tryd.prog 34 #[.int .u64 (v : Int), .int .i64 me] w fun e w' => e = .returned (.int .i64 c) ∧ w' = w) (w : World) :
    Calls Tryd.prog 11 #[.int .u64 (v : Int), .int .i64 me] w fun e w' => e = .returned (.tuple #[.int .u64 0, .bool false, .int .i64 c]) ∧ w' = w := by
  have HW := hide2 HW
  rcases hc with rfl | rfl
  all_goals
    go_enter Tryd.func11, Tryd.ntmps11
    go_wp2_with fail
    refine (HW.out _).mono ?_
    rintro e w1 ⟨rfl, rfl⟩
    go_wp2
    go_ret3
    exact ⟨rfl, rfl⟩
theorem rwrite_bad {v : Nat} {me c : Int} (hc : c = 2 ∨ c = 130) (HW : ∀ w, Calls Tryd.prog 34 #[.int .u64 (v : Int), .int .i64 me] w fun e w' => e = .returned (.int .i64 c) ∧ w' = w) (w : World) :
    Calls Tryd.prog 13 #[.int .u64 (v : Int), .int .i64 me] w fun e w' => e = .returned (.tuple #[.int .u64 0, .bool false, .int .i64 c]) ∧ w' = w := by
  have HW := hide2 HW
  rcases hc with rfl | rfl
  all_goals
    go_enter Tryd.func13, Tryd.ntmps13
    go_wp2_with fail
    refine (HW.out _).mono ?_
    rintro e w1 ⟨rfl, rfl⟩
    go_wp2
    go_ret3
    exact ⟨rfl, rfl⟩
theorem rleave_bad {v : Nat} {me c : Int} (hc : c = 2 ∨ c = 130) (HW : ∀ w, Calls Tryd.prog 34 #[.int .u64 (v : Int), .int .i64 me] w fun e w' => e = .returned (.int .i64 c) ∧ w' = w) (w : World) :
    Calls Tryd.prog 15 #[.int .u64 (v : Int), .int .i64 me] w fun e w' => e = .returned (.tuple #[.int .u64 0, .int .i64 c]) ∧ w' = w := by
  have HW := hide2 HW
  rcases hc with rfl | rfl
  all_goals
    go_enter Tryd.func15, Tryd.ntmps15
    go_wp2_with fail
    refine (HW.out _).mono ?_
    rintro e w1 ⟨rfl, rfl⟩
    go_wp2
    go_ret2
    exact ⟨rfl, rfl⟩

theorem wg_ok {v m : Nat} (hr : Lk.rt v = true) (hm : m < 16) : wgV v (m : Int) = 0 := by unfold wgV; simp [isW_nat hm, hr]
theorem ag_ok {v m : Nat} {wr : Bool} (hr : Lk.rt v = true) (hm : m < 16) : agV v (m : Int) wr = Lk.agn v m wr := by unfold agV; simp [isW_nat hm, hr]

theorem rread_ok {v m : Nat} (hlt : v < 18446744073709551616) (hr : Lk.rt v = true) (hm : m < 16) (w : World) :
    Calls Tryd.prog 11 #[.int .u64 (v : Int), .int .i64 (m : Int)] w fun e w' => e = ans3 (if Lk.agn v m false = [] then (Lk.rdd v m, true, 0) else (0, false, 0)) ∧ Below w.heap.size w w' := by
  have HW := hide2 (fun w => rwrong_any (me := (m : Int)) hlt w)
  have HA := hide2 (fun w => rAgainst_any (me := (m : Int)) (wrt := false) hlt w)
  have HB := hide2 (fun w => rreads_any (v := v) (k := m) hlt (by omega) w)
  rw [wg_ok hr hm] at HW
  rw [ag_ok hr hm] at HA
  have hwo := Lk.rt_iff.1 hr
  have hp := pow64 hm
  have hr1 := hwo.r
  have hx1 := hwo.x
  have he1 := hwo.eq
  have hpl := pow16_lt hm
  unfold ans3
  by_cases ha : Lk.agn v m false = []
  · rw [if_pos ha]
    rw [ha] at HA
    cases hb : v.testBit m with
    | true =>
      rw [hb] at HB
      have hv : Lk.rdd v m = v := by unfold Lk.rdd; rw [if_pos hb]
      rw [hv]
      clear hwo hr1 hx1 he1 hp
      go_enter Tryd.func11, Tryd.ntmps11
      go_wp2_with fail
      refine (HW.out _).mono ?_
      rintro e w1 ⟨rfl, rfl⟩
      go_wp2_with fail
      refine (HA.out _).mono ?_
      rintro e w2 ⟨u, rfl, hu, hw2⟩
      obtain ⟨au, cu, rfl, hcu⟩ := hu.form
      clear hu
      go_wp2_with fail
      refine (HB.out _).mono ?_
      rintro e w3 ⟨rfl, rfl⟩
      go_wp2
      go_ret3
      exact ⟨rfl, hw2⟩
    | false =>
      rw [hb] at HB
      have hv : Lk.rdd v m = v + 2 ^ m := by unfold Lk.rdd; rw [if_neg (by rw [hb]; decide)]
      rw [hv]
      generalize 2 ^ m = a at *
      have hsum : (v : Int) + (a : Int) < 18446744073709551616 := by omega
      clear hwo hr1 hx1 he1
      go_enter Tryd.func11, Tryd.ntmps11
      go_wp2_with fail
      refine (HW.out _).mono ?_
      rintro e w1 ⟨rfl, rfl⟩
      go_wp2_with fail
      refine (HA.out _).mono ?_
      rintro e w2 ⟨u, rfl, hu, hw2⟩
      obtain ⟨au, cu, rfl, hcu⟩ := hu.form
      clear hu
      go_wp2_with fail
      refine (HB.out _).mono ?_
      rintro e w3 ⟨rfl, rfl⟩
      go_wp2
      go_ret3
      exact ⟨rfl, hw2⟩
  · rw [if_neg ha]
    have hpos : 0 < (Lk.agn v m false).length := List.length_pos_iff.2 ha
    generalize Lk.agn v m false = l at *
    have hpos2 : (0 : Int) < (l.length : Int) := by omega
    clear hwo hr1 hx1 he1 hp
    go_enter Tryd.func11, Tryd.ntmps11
    go_wp2_with fail
    refine (HW.out _).mono ?_
    rintro e w1 ⟨rfl, rfl⟩
    go_wp2_with fail
    refine (HA.out _).mono ?_
    rintro e w2 ⟨u, rfl, hu, hw2⟩
    obtain ⟨au, cu, rfl, hcu⟩ := hu.form
    clear hu
    generalize l.length = n at *
    go_wp2
    go_ret3
    exact ⟨rfl, hw2⟩

theorem rwrite_ok {v m : Nat} (hlt : v < 18446744073709551616) (hr : Lk.rt v = true) (hm : m < 16) (w : World) :
    Calls Tryd.prog 13 #[.int .u64 (v : Int), .int .i64 (m : Int)] w fun e w' => e = ans3 (if Lk.agn v m true = [] then (Lk.wtd v m, true, 0) else (0, false, 0)) ∧ Below w.heap.size w w' := by
  have HW := hide2 (fun w => rwrong_any (me := (m : Int)) hlt w)
  have HA := hide2 (fun w => rAgainst_any (me := (m : Int)) (wrt := true) hlt w)
  rw [wg_ok hr hm] at HW
  rw [ag_ok hr hm] at HA
  have hwo := Lk.rt_iff.1 hr
  have hr1 := hwo.r
  unfold ans3
  by_cases ha : Lk.agn v m true = []
  · rw [if_pos ha]
    rw [ha] at HA
    have hmod : (v : Int) % 4294967296 = ((v % 4294967296 : Nat) : Int) := by omega
    have hmod2 : ((v : Int).tmod 4294967296) = ((v % 4294967296 : Nat) : Int) := by rw [Int.tmod_eq_emod_of_nonneg (by omega)]; exact hmod
    unfold Lk.wtd
    generalize v % 4294967296 = r at *
    have hm1 : (m : Int) + 1 ≤ 16 := by omega
    have hr2 : (r : Int) < 65536 := by omega
    clear hwo hr1 ha
    go_enter Tryd.func13, Tryd.ntmps13
    go_wp2_with fail
    refine (HW.out _).mono ?_
    rintro e w1 ⟨rfl, rfl⟩
    go_wp2_with fail
    refine (HA.out _).mono ?_
    rintro e w2 ⟨u, rfl, hu, hw2⟩
    obtain ⟨au, cu, rfl, hcu⟩ := hu.form
    clear hu
    go_wp2
    go_ret3
    exact ⟨rfl, hw2⟩
  · rw [if_neg ha]
    have hpos : 0 < (Lk.agn v m true).length := List.length_pos_iff.2 ha
    generalize Lk.agn v m true = l at *
    have hpos2 : (0 : Int) < (l.length : Int) := by omega
    clear hwo hr1
    go_enter Tryd.func13, Tryd.ntmps13
    go_wp2_with fail
    refine (HW.out _).mono ?_
    rintro e w1 ⟨rfl, rfl⟩
    go_wp2_with fail
    refine (HA.out _).mono ?_
    rintro e w2 ⟨u, rfl, hu, hw2⟩
    obtain ⟨au, cu, rfl, hcu⟩ := hu.form
    clear hu
    generalize l.length = n at *
    go_wp2
    go_ret3
    exact ⟨rfl, hw2⟩

theorem rleave_ok {v m : Nat} (hlt : v < 18446744073709551616) (hr : Lk.rt v = true) (hm : m < 16) (w : World) :
    Calls Tryd.prog 15 #[.int .u64 (v : Int), .int .i64 (m : Int)] w fun e w' => e = .returned (.tuple #[.int .u64 (Lk.lvd v m : Int), .int .i64 0]) ∧ w' = w := by
  have HW := hide2 (fun w => rwrong_any (me := (m : Int)) hlt w)
  have HB := hide2 (fun w => rreads_any (v := v) (k := m) hlt (by omega) w)
  rw [wg_ok hr hm] at HW
  have hwo := Lk.rt_iff.1 hr
  have ho := hwo.off hm
  have hp := pow64 hm
  have hlt2 := ho.lt
  have HT := hide2 (fun w => rWriter_any (v := Lk.lvr v m) ho.lt w)
  have hwt : wtV (Lk.lvr v m) = (v / 4294967296 - 1, decide (v / 4294967296 ≠ 0)) := by
    unfold wtV; rw [if_neg (by rw [ho.rt]; decide), ho.div]
  rw [hwt] at HT
  simp only at HT
  have hd : Lk.lvd v m = if v / 4294967296 = m + 1 then Lk.lvr v m % 4294967296 else Lk.lvr v m := by unfold Lk.lvd; rw [ho.div]
  rw [hd]
  have hxx := hwo.x
  generalize v / 4294967296 = x at *
  have hmod2 : (((Lk.lvr v m : Nat) : Int).tmod 4294967296) = ((Lk.lvr v m % 4294967296 : Nat) : Int) := by rw [Int.tmod_eq_emod_of_nonneg (by omega)]; omega
  have hstep : (v.testBit m = true ∧ (v : Int) - ((2 ^ m : Nat) : Int) = ((Lk.lvr v m : Nat) : Int)) ∨ (v.testBit m = false ∧ Lk.lvr v m = v) := by
    unfold Lk.lvr
    cases hb : v.testBit m with
    | true =>
      have := Lk.bit_ge hb
      rw [if_pos rfl]
      generalize 2 ^ m = a at *
      exact .inl ⟨rfl, by omega⟩
    | false => rw [if_neg (by decide)]; exact .inr ⟨rfl, rfl⟩
  have hpw := pow16_lt hm
  generalize Lk.lvr v m = y at *
  generalize y % 4294967296 = z at *
  generalize 2 ^ m = a at *
  have hx3 : x = 0 ∨ x = m + 1 ∨ (x ≠ 0 ∧ x ≠ m + 1) := by omega
  clear hwo ho hwt hd hr
  have hy2 : (y : Int) < 18446744073709551616 := by omega
  rcases hstep with ⟨hb, hs⟩ | ⟨hb, hs⟩
  · rw [hb] at HB
    rcases hx3 with rfl | rfl | ⟨hx0, hxm⟩
    · rw [if_neg (by omega)]
      go_enter Tryd.func15, Tryd.ntmps15
      go_wp2_with fail
      refine (HW.out _).mono ?_
      rintro e w1 ⟨rfl, rfl⟩
      go_wp2_with fail
      refine (HB.out _).mono ?_
      rintro e w2 ⟨rfl, rfl⟩
      go_wp2_with fail
      refine (HT.out _).mono ?_
      rintro e w3 ⟨rfl, rfl⟩
      go_wp2
      go_ret2
      exact ⟨rfl, rfl⟩
    · rw [if_pos rfl]
      have e1 : ((m + 1 - 1 : Nat) : Int) = (m : Int) := by omega
      have e2 : decide (m + 1 ≠ 0) = true := by simp
      rw [e1, e2] at HT
      go_enter Tryd.func15, Tryd.ntmps15
      go_wp2_with fail
      refine (HW.out _).mono ?_
      rintro e w1 ⟨rfl, rfl⟩
      go_wp2_with fail
      refine (HB.out _).mono ?_
      rintro e w2 ⟨rfl, rfl⟩
      go_wp2_with fail
      refine (HT.out _).mono ?_
      rintro e w3 ⟨rfl, rfl⟩
      go_wp2
      go_ret2
      exact ⟨rfl, rfl⟩
    · rw [if_neg hxm]
      have e2 : decide (x ≠ 0) = true := by simpa using hx0
      rw [e2] at HT
      have e3 : (((x - 1 : Nat) : Int) == (m : Int)) = false := by simp; omega
      generalize x - 1 = x' at *
      go_enter Tryd.func15, Tryd.ntmps15
      go_wp2_with fail
      refine (HW.out _).mono ?_
      rintro e w1 ⟨rfl, rfl⟩
      go_wp2_with fail
      refine (HB.out _).mono ?_
      rintro e w2 ⟨rfl, rfl⟩
      go_wp2_with fail
      refine (HT.out _).mono ?_
      rintro e w3 ⟨rfl, rfl⟩
      go_wp2
      go_ret2
      exact ⟨rfl, rfl⟩
  · rw [hb] at HB
    subst hs
    rcases hx3 with rfl | rfl | ⟨hx0, hxm⟩
    · rw [if_neg (by omega)]
      go_enter Tryd.func15, Tryd.ntmps15
      go_wp2_with fail
      refine (HW.out _).mono ?_
      rintro e w1 ⟨rfl, rfl⟩
      go_wp2_with fail
      refine (HB.out _).mono ?_
      rintro e w2 ⟨rfl, rfl⟩
      go_wp2_with fail
      refine (HT.out _).mono ?_
      rintro e w3 ⟨rfl, rfl⟩
      go_wp2
      go_ret2
      exact ⟨rfl, rfl⟩
    · rw [if_pos rfl]
      have e1 : ((m + 1 - 1 : Nat) : Int) = (m : Int) := by omega
      have e2 : decide (m + 1 ≠ 0) = true := by simp
      rw [e1, e2] at HT
      go_enter Tryd.func15, Tryd.ntmps15
      go_wp2_with fail
      refine (HW.out _).mono ?_
      rintro e w1 ⟨rfl, rfl⟩
      go_wp2_with fail
      refine (HB.out _).mono ?_
      rintro e w2 ⟨rfl, rfl⟩
      go_wp2_with fail
      refine (HT.out _).mono ?_
      rintro e w3 ⟨rfl, rfl⟩
      go_wp2
      go_ret2
      exact ⟨rfl, rfl⟩
    · rw [if_neg hxm]
      have e2 : decide (x ≠ 0) = true := by simpa using hx0
      rw [e2] at HT
      have e3 : (((x - 1 : Nat) : Int) == (m : Int)) = false := by simp; omega
      generalize x - 1 = x' at *
      go_enter Tryd.func15, Tryd.ntmps15
      go_wp2_with fail
      refine (HW.out _).mono ?_
      rintro e w1 ⟨rfl, rfl⟩
      go_wp2_with fail
      refine (HB.out _).mono ?_
      rintro e w2 ⟨rfl, rfl⟩
      go_wp2_with fail
      refine (HT.out _).mono ?_
      rintro e w3 ⟨rfl, rfl⟩
      go_wp2
      go_ret2
      exact ⟨rfl, rfl⟩

theorem rRead_any {v : Nat} {me : Int} (hlt : v < 18446744073709551616) (w : World) :
    Calls Tryd.prog 11 #[.int .u64 (v : Int), .int .i64 me] w fun e w' => e = ans3 (rdV v me) ∧ Below w.heap.size w w' := by
  unfold rdV
  by_cases h : isW me = false
  · rw [if_pos h]
    refine (rread_bad (c := 2) (.inl rfl) (fun w => by have := rwrong_any (me := me) hlt w; unfold wgV at this; rwa [if_pos h] at this) w).mono ?_
    rintro e w' ⟨rfl, rfl⟩
    exact ⟨rfl, Below.refl _ _⟩
  · rw [if_neg h]
    obtain ⟨e, hm⟩ := isW_toNat (notFalse h)
    by_cases hr : Lk.rt v = false
    · rw [if_pos hr]
      refine (rread_bad (c := 130) (.inr rfl) (fun w => by have := rwrong_any (me := me) hlt w; unfold wgV at this; rwa [if_neg h, if_pos hr] at this) w).mono ?_
      rintro e w' ⟨rfl, rfl⟩
      exact ⟨rfl, Below.refl _ _⟩
    · rw [if_neg hr]
      have := rread_ok hlt (notFalse hr) hm w
      rwa [e] at this
theorem rWrite_any {v : Nat} {me : Int} (hlt : v < 18446744073709551616) (w : World) :
    Calls Tryd.prog 13 #[.int .u64 (v : Int), .int .i64 me] w fun e w' => e = ans3 (wrV v me) ∧ Below w.heap.size w w' := by
  unfold wrV
  by_cases h : isW me = false
  · rw [if_pos h]
    refine (rwrite_bad (c := 2) (.inl rfl) (fun w => by have := rwrong_any (me := me) hlt w; unfold wgV at this; rwa [if_pos h] at this) w).mono ?_
    rintro e w' ⟨rfl, rfl⟩
    exact ⟨rfl, Below.refl _ _⟩
  · rw [if_neg h]
    obtain ⟨e, hm⟩ := isW_toNat (notFalse h)
    by_cases hr : Lk.rt v = false
    · rw [if_pos hr]
      refine (rwrite_bad (c := 130) (.inr rfl) (fun w => by have := rwrong_any (me := me) hlt w; unfold wgV at this; rwa [if_neg h, if_pos hr] at this) w).mono ?_
      rintro e w' ⟨rfl, rfl⟩
      exact ⟨rfl, Below.refl _ _⟩
    · rw [if_neg hr]
      have := rwrite_ok hlt (notFalse hr) hm w
      rwa [e] at this
theorem rLeave_any {v : Nat} {me : Int} (hlt : v < 18446744073709551616) (w : World) :
    Calls Tryd.prog 15 #[.int .u64 (v : Int), .int .i64 me] w fun e w' => e = .returned (.tuple #[.int .u64 ((lvV v me).1 : Int), .int .i64 (lvV v me).2]) ∧ w' = w := by
  unfold lvV
  by_cases h : isW me = false
  · rw [if_pos h]
    exact rleave_bad (c := 2) (.inl rfl) (fun w => by have := rwrong_any (me := me) hlt w; unfold wgV at this; rwa [if_pos h] at this) w
  · rw [if_neg h]
    obtain ⟨e, hm⟩ := isW_toNat (notFalse h)
    by_cases hr : Lk.rt v = false
    · rw [if_pos hr]
      exact rleave_bad (c := 130) (.inr rfl) (fun w => by have := rwrong_any (me := me) hlt w; unfold wgV at this; rwa [if_neg h, if_pos hr] at this) w
    · rw [if_neg hr]
      have := rleave_ok hlt (notFalse hr) hm w
      rwa [e] at this
end
end Go.Proofs.YtbmgclnhooaniaaDoor
