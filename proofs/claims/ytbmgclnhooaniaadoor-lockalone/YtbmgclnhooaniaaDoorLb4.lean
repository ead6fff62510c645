/-
  Lb4: Where a worker may write nobody else is; what it took it leaves (LockAlone).
-/
import Derived.Test.YtbmgclnhooaniaaDoorLb2
import Derived.Test.YtbmgclnhooaniaaDoorLkL
set_option linter.unusedVariables false
set_option linter.unusedSimpArgs false
namespace Go.Proofs.YtbmgclnhooaniaaDoor
open Go.RowKit

theorem wr_no {v : Nat} {me : Int} (h : (wrV v me).2.1 = false) : (wrV v me).1 = 0 ∧ ((wrV v me).2.2 = 0 ∨ (wrV v me).2.2 = 2 ∨ (wrV v me).2.2 = 130) := by
  unfold wrV at h ⊢
  by_cases a : isW me = false
  · simp [a]
  · by_cases b : Lk.rt v = false
    · simp [a, b]
    · by_cases c : Lk.agn v me.toNat true = []
      · simp [a, b, c] at h
      · simp [a, b, c]
structure Wy (v : Nat) (me : Int) (m : Nat) : Prop where
  is : me = (m : Int)
  lt : m < 16
  wo : Lk.Wo v (v % 4294967296) (v / 4294967296)
  ag : Lk.agn v m true = []
  eq : wrV v me = (Lk.wtd v m, true, 0)
theorem wr_yes {v : Nat} {me : Int} (h : (wrV v me).2.1 = true) : ∃ m, Wy v me m := by
  by_cases a : isW me = false
  · unfold wrV at h; simp [a] at h
  · by_cases b : Lk.rt v = false
    · unfold wrV at h; simp [a, b] at h
    · by_cases c : Lk.agn v me.toNat true = []
      · have a1 := notFalse a
        obtain ⟨e, hm⟩ := isW_toNat a1
        exact ⟨me.toNat, e.symm, hm, Lk.rt_iff.1 (notFalse b), c, by unfold wrV; rw [if_neg a, if_neg b, if_pos c]⟩
      · unfold wrV at h; simp [a, b, c] at h
theorem rd_other {v : Nat} {me o : Int} {m : Nat} (h : Wy v me m) (ho : o ≠ me) : ∃ c : Int, (c = 0 ∨ c = 2) ∧ rdV (Lk.wtd v m) o = (0, false, c) ∧ wrV (Lk.wtd v m) o = (0, false, c) := by
  have ho2 : ∀ k : Nat, (k : Int) = o → k ≠ m := fun k hk q => ho (by rw [h.is, ← hk, q])
  unfold rdV wrV
  by_cases a : isW o = false
  · exact ⟨2, .inr rfl, by simp [a]⟩
  · have b : ¬ Lk.rt (Lk.wtd v m) = false := by rw [(h.wo.write h.lt).rt]; decide
    obtain ⟨e, hm⟩ := isW_toNat (notFalse a)
    have c : ∀ wr, Lk.agn (Lk.wtd v m) o.toNat wr ≠ [] := fun wr q => by
      have := Lk.write_alone h.wo h.lt (o := o.toNat) (ho2 _ e) (wr := wr)
      rw [q] at this; cases this
    exact ⟨0, .inl rfl, by simp [a, b, c]⟩
theorem lv_yes {v : Nat} {me : Int} {m : Nat} (h : Wy v me m) : lvV v me = (Lk.lvd v m, 0) ∧ lvV (Lk.wtd v m) me = (Lk.lvd v m, 0) := by
  have a : ¬ isW me = false := by rw [h.is, isW_nat h.lt]; decide
  have e : me.toNat = m := by rw [h.is]; omega
  have hx := ((Lk.agn_write h.wo h.lt).1 h.ag).1
  constructor
  · unfold lvV; rw [if_neg a, if_neg (by rw [h.wo.rt]; decide), e]
  · unfold lvV; rw [if_neg a, if_neg (by rw [(h.wo.write h.lt).rt]; decide), e, Lk.write_leave h.wo h.lt hx]
theorem ag_free {v : Nat} {me o : Int} {m : Nat} (h : Wy v me m) : ∀ k ∈ agV (Lk.lvd v m) o true, k ≠ m := fun k hk q => by
  unfold agV at hk
  split at hk
  · cases hk
  · split at hk
    · cases hk
    · rw [q] at hk; exact Lk.leave_free h.wo h.lt hk
theorem ag_short (v : Nat) (o : Int) (wr : Bool) : (agV v o wr).length ≤ 16 := by
  unfold agV
  split
  · simp
  · split
    · simp
    · unfold Lk.agn; have := List.length_filter_le (fun k => !(k == o.toNat) && (v / 4294967296 == k + 1 || wr && v.testBit k)) (List.range 16); simpa using this

section
set_option maxHeartbeats 4000000
set_option maxRecDepth 100000
variable {w : World}
theorem alone_no {z : Nat} {me o : Int} (hT : Tab w) (hlt : z < 18446744073709551616) (hb : (wrV z me).2.1 = false) :
    Calls Tryd.prog 6 #[.int .u64 (z : Int), .int .i64 me, .int .i64 o] w fun e w' => e = .returned (.bool true) ∧ Below w.heap.size w w' := by
  have HS := hide2 (shown_any w)
  have HW := hide2 (fun w => Write_any (me := me) hlt w)
  unfold ans3 at HW
  obtain ⟨h0, hc⟩ := wr_no hb
  rw [h0, hb] at HW
  generalize (wrV z me).2.2 = c at *
  clear hb h0 hT
  rcases hc with rfl | rfl | rfl
  all_goals
    go_enter Tryd.func6, Tryd.ntmps6
    go_wp2_with fail
    refine HS.out.mono ?_
    rintro e w1 ⟨rfl, hw1⟩
    have B1 := hide2 hw1
    clear hw1 HS
    go_wp2_with fail
    refine (HW.out _).mono ?_
    rintro e w2 ⟨rfl, hw2⟩
    have B2 := hide2 (B1.out.trans (hw2.mono B1.out.size))
    clear hw2 B1 HW
    go_wp2
    go_ret
    exact ⟨rfl, B2.out⟩

theorem alone_yes {z : Nat} {me o : Int} {m : Nat} (hT : Tab w) (hlt : z < 18446744073709551616) (hy : Wy z me m) :
    Calls Tryd.prog 6 #[.int .u64 (z : Int), .int .i64 me, .int .i64 o] w fun e w' => e = .returned (.bool true) ∧ Below w.heap.size w w' := by
  have HS := hide2 (shown_any w)
  have hwl := (hy.wo.write hy.lt).lt
  have hll := (hy.wo.leave hy.lt).lt
  have HW := hide2 (fun w => Write_any (me := me) hlt w)
  have HR2 := hide2 (fun w => Read_any (me := o) hwl w)
  have HW2 := hide2 (fun w => Write_any (me := o) hwl w)
  have HL := hide2 (fun w => Leave_any (me := me) hwl w)
  have HL2 := hide2 (fun w => Leave_any (me := me) hlt w)
  have HG := hide2 (fun w hT => Against_any (me := o) (wr := true) hll w hT)
  have hgs := ag_short (Lk.lvd z m) o true
  have HF := hide2 (ag_free (o := o) hy)
  rw [(lv_yes hy).2] at HL
  rw [(lv_yes hy).1] at HL2
  unfold ans3 at HW HR2 HW2
  rw [hy.eq] at HW
  have HT := hide2 hT
  have hme := hy.is
  have hO : (o = me) ∨ (o ≠ me ∧ ∃ c : Int, (c = 0 ∨ c = 2) ∧ rdV (Lk.wtd z m) o = (0, false, c) ∧ wrV (Lk.wtd z m) o = (0, false, c)) := by
    by_cases q : o = me
    · exact .inl q
    · exact .inr ⟨q, rd_other hy q⟩
  clear hy hT hlt hwl hll
  subst hme
  generalize rdV (Lk.wtd z m) o = R at *
  generalize wrV (Lk.wtd z m) o = S at *
  generalize agV (Lk.lvd z m) o true = l at *
  generalize Lk.wtd z m = a at *
  generalize Lk.lvd z m = b at *
  simp only at HL HL2
  have hO2 : (o = (m : Int)) ∨ ((o != (m : Int)) = true ∧ R = (0, false, 0) ∧ S = (0, false, 0)) ∨ ((o != (m : Int)) = true ∧ R = (0, false, 2) ∧ S = (0, false, 2)) := by
    rcases hO with q | ⟨q, c, rfl | rfl, e1, e2⟩
    · exact .inl q
    · exact .inr (.inl ⟨by simpa using q, e1, e2⟩)
    · exact .inr (.inr ⟨by simpa using q, e1, e2⟩)
  clear hO
  obtain ⟨r0, r1, r2⟩ := R
  obtain ⟨s0, s1, s2⟩ := S
  simp only [Prod.mk.injEq] at hO2 HR2 HW2
  rcases hO2 with rfl | ⟨hne2, ⟨rfl, rfl, rfl⟩, rfl, rfl, rfl⟩ | ⟨hne2, ⟨rfl, rfl, rfl⟩, rfl, rfl, rfl⟩
  all_goals
    go_enter Tryd.func6, Tryd.ntmps6
    go_wp2_with fail
    refine HS.out.mono ?_
    rintro e w1 ⟨rfl, hw1⟩
    have B1 := hide2 hw1
    clear hw1 HS
    go_wp2_with fail
    refine (HW.out _).mono ?_
    rintro e w2 ⟨rfl, hw2⟩
    have B2 := hide2 (B1.out.trans (hw2.mono B1.out.size))
    clear hw2 B1 HW
    go_wp2_with fail
    refine (HR2.out _).mono ?_
    rintro e w3 ⟨rfl, hw3⟩
    have B3 := hide2 (B2.out.trans (hw3.mono B2.out.size))
    clear hw3 B2 HR2
    go_wp2_with fail
    refine (HW2.out _).mono ?_
    rintro e w4 ⟨rfl, hw4⟩
    have B4 := hide2 (B3.out.trans (hw4.mono B3.out.size))
    clear hw4 B3 HW2
    go_wp2_with fail
    refine (HL.out _).mono ?_
    rintro e w5 ⟨rfl, hw5⟩
    have B5 := hide2 (B4.out.trans (hw5.mono B4.out.size))
    clear hw5 B4 HL
    go_wp2_with fail
    refine (HL2.out _).mono ?_
    rintro e w6 ⟨rfl, hw6⟩
    have B6 := hide2 (B5.out.trans (hw6.mono B5.out.size))
    clear hw6 B5 HL2
    go_wp2_with fail
    refine (HG.out _ (HT.out.keep B6.out)).mono ?_
    rintro e w7 ⟨u, rfl, hu, hw7⟩
    have B7 := hide2 (B6.out.trans (hw7.mono B6.out.size))
    obtain ⟨au, cu, rfl, hcu⟩ := hu.form
    have HU := hide2 hu
    have hmu := hu.seq.2.2.1
    unfold maxLen at hmu
    clear hu hw7 B6 HG
    go_wp2
    go_loopw [22] (fun i wr => ∃ j : Nat, j ≤ l.length ∧ i = .int .i64 (j : Int) ∧ wr = w7) (fun i _ => l.length - (intOf i).toNat)
    case atStart => exact ⟨0, Nat.zero_le _, rfl, rfl⟩
    case round =>
      obtain ⟨j, hj, rfl, rfl⟩ := hrel
      by_cases hlt2 : j < l.length
      · obtain ⟨x, hx⟩ := some_at (l := l) rfl hlt2
        have hxm : x ≠ m := HF.out x (List.mem_of_getElem? hx)
        have hxm2 : ((x : Int) == (m : Int)) = false := by simp; omega
        obtain ⟨g, rfl, hgb, hgw, hcell⟩ := HU.out.cell hlt2
        have c1 : wr.cell? ⟨g, j, none⟩ = some (.int .i64 (x : Int)) := by
          have := hcell j hlt2
          simp only [List.getD, hx, Option.getD_some, nv] at this
          exact this
        have d1 : decide ((j : Int) < (l.length : Int)) = true := by simp; omega
        have d2 : (j : Int) < (l.length : Int) := by omega
        clear hcell hx hxm
        generalize l.length = n at *
        go_wp2
        go_roundw
        case rel => exact ⟨j + 1, by omega, by go_num, by first | rfl | trivial⟩
        case measure => simp [intOf]; omega
      · have e1 : j = l.length := by omega
        subst e1
        have d1 : decide ((l.length : Int) < (l.length : Int)) = false := by simp
        go_wp2
        go_ret
        exact ⟨rfl, B7.out⟩

theorem lockAlone_walk {v me o : Int} (hT : Tab w) (hv : 0 ≤ v ∧ v ≤ 18446744073709551615) :
    Calls Tryd.prog 6 #[.int .u64 v, .int .i64 me, .int .i64 o] w fun e w' => e = .returned (.bool true) ∧ Below w.heap.size w w' := by
  obtain ⟨z, rfl⟩ : ∃ z : Nat, v = (z : Int) := ⟨v.toNat, by omega⟩
  have hlt : z < 18446744073709551616 := by omega
  cases e : (wrV z me).2.1 with
  | false => exact alone_no hT hlt e
  | true =>
    obtain ⟨m, hy⟩ := wr_yes e
    exact alone_yes hT hlt hy
end
end Go.Proofs.YtbmgclnhooaniaaDoor
