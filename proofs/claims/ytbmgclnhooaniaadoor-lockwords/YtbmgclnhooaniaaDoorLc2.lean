/-
  Lc2: The document's own lock words: Readers, Against.
-/
import Derived.Test.YtbmgclnhooaniaaDoorLc1
import Derived.Test.YtbmgclnhooaniaaDoorLkL
set_option linter.unusedVariables false
set_option linter.unusedSimpArgs false
namespace Go.Proofs.YtbmgclnhooaniaaDoor
open Go.RowKit

theorem hcell_new (w : World) (x : Value) (t : TypeId) : ∀ j u, [x][j]? = some u → (w.alloc (.cells #[x] t)).cell? ((⟨w.heap.size, 0, none⟩ : Addr).add j) = some u := by
  intro j u h
  rw [addr_plus]
  cases j with
  | zero =>
    simp at h
    subst h
    exact (Boxed.new w t x).cell
  | succ j => simp at h

/-- What a loop over all sixteen has put together. -/
def upto (p : Nat → Bool) (k : Nat) : List Nat := (List.range k).filter p
theorem upto_succ (p : Nat → Bool) (k : Nat) : upto p (k + 1) = if p k = true then upto p k ++ [k] else upto p k := by
  unfold upto
  rw [List.range_succ, List.filter_append]
  by_cases h : p k = true
  · rw [if_pos h]; simp [h]
  · rw [if_neg h]; simp [h]
theorem upto_len (p : Nat → Bool) (k : Nat) : (upto p k).length ≤ k := by
  have := List.length_filter_le p (List.range k); simpa [upto] using this

section
set_option maxHeartbeats 4000000
set_option maxRecDepth 100000
theorem rReaders_any {v : Nat} (hlt : v < 18446744073709551616) (w : World) :
    Calls Tryd.prog 20 #[.int .u64 (v : Int)] w fun e w' => ∃ u, e = .returned u ∧ Hr w' w.heap.size u (rsV v) ∧ Below w.heap.size w w' := by
  obtain ⟨i0, hi0, z0, z1, z2⟩ := info_parts info3
  have HR := hide2 (fun w => rright_any hlt w)
  have HB := hide2 (fun k hk w => rreads_any (v := v) (k := k) hlt hk w)
  unfold rsV
  cases hr : Lk.rt v with
  | false =>
    rw [hr] at HR
    rw [if_pos rfl]
    go_enter Tryd.func20, Tryd.ntmps20
    go_wp2_with fail
    refine (HR.out _).mono ?_
    rintro e w2 ⟨rfl, rfl⟩
    go_wp2
    go_loopw [3, 5] (fun s i wr => s = .slice none 0 0 ∧ i = .int .i64 0 ∧ Hid (wr = w2)) (fun _ _ _ => 0)
    case atStart => exact ⟨rfl, rfl, hide2 rfl⟩
    case round =>
      obtain ⟨rfl, rfl, hw⟩ := hrel
      have hw := hw.out
      subst hw
      go_wp2
      go_ret
      exact ⟨_, rfl, Hr.nil _ _, Below.refl _ _⟩
  | true =>
    rw [hr] at HR
    rw [if_neg (by decide)]
    go_enter Tryd.func20, Tryd.ntmps20
    go_wp2_with fail
    refine (HR.out _).mono ?_
    rintro e wz ⟨rfl, rfl⟩
    go_wp2
    go_loopw [3, 5] (fun s i wr => ∃ k : Nat, k ≤ 16 ∧ Hid (Hr wr wz.heap.size s (upto (fun j => v.testBit j) k)) ∧ i = .int .i64 (k : Int) ∧ Hid (Below wz.heap.size wz wr)) (fun _ i _ => 16 - (intOf i).toNat)
    case atStart => exact ⟨0, Nat.zero_le _, hide2 (Hr.nil _ _), rfl, hide2 (Below.refl _ _)⟩
    case round =>
      obtain ⟨k, hk, HU, rfl, BW⟩ := hrel
      by_cases hlt2 : k < 16
      · have d1 : (k : Int) < 16 := by omega
        have hlen := upto_len (fun j => v.testBit j) k
        have HS := hide2 (upto_succ (fun j => v.testBit j) k)
        have HBK := hide2 (fun w => HB.out k (by omega) w)
        obtain ⟨ao, cp, rfl, hcp⟩ := HU.out.form
        have HROW := hide2 (show wr.ownsRow wz.heap.size 3 1 (.slice ao (upto (fun j => v.testBit j) k).length cp) (upto (fun j => v.testBit j) k).length ((upto (fun j => v.testBit j) k).map nv) from HU.out)
        have HNEW := hide2 (hcell_new wr (.int .i64 (k : Int)) 3)
        have hsz := BW.out.size
        clear HU
        cases hb : v.testBit k with
        | false =>
          rw [hb] at HBK
          have ES : Hid (upto (fun j => v.testBit j) (k + 1) = upto (fun j => v.testBit j) k) := hide2 (by rw [HS.out]; simp [hb])
          generalize upto (fun j => v.testBit j) k = l at *
          go_wp2_with fail
          refine (HBK.out _).mono ?_
          rintro e w3 ⟨rfl, rfl⟩
          go_wp2
          go_roundw
          case rel => exact ⟨k + 1, by omega, by rw [ES.out]; exact HROW, by go_num, BW⟩
          case measure => simp [intOf]; omega
        | true =>
          rw [hb] at HBK
          have ES : Hid (upto (fun j => v.testBit j) (k + 1) = upto (fun j => v.testBit j) k ++ [k]) := hide2 (by rw [HS.out]; simp [hb])
          generalize upto (fun j => v.testBit j) k = l at *
          go_wp2_with fail
          refine (HBK.out _).mono ?_
          rintro e w3 ⟨rfl, rfl⟩
          go_wp2_with (at_builtin; refine Hid.out ?_)
          refine hide2 ?_
          refine wpList_append_own_at _ rfl _ _ 32 rfl wz.heap.size 3 i0 (.int .i64 0) 1 8 Tryd.underlying32 hi0 z0 z1 z2 rfl (by decide) (.slice ao l.length cp) _ _ rfl (World.ownsRow.alloc HROW.out _) ⟨w3.heap.size, 0, none⟩ 1 1 [.int .i64 (k : Int)] rfl rfl HNEW.out (by simp [Value.oneCell']) (by unfold maxLen; omega) (by omega) (by simp; omega) ?_
          intro v' w4 hown4 hgrow4 hat4 hb4
          obtain ⟨gt, capt, ev⟩ := ownsRow_succ hown4
          have HH4 : Hid (Hr w4 wz.heap.size v' (l ++ [k])) := hide2 (by
            unfold Hr
            rw [List.length_append, List.length_singleton, List.map_append]
            exact hown4)
          have BW4 : Hid (Below wz.heap.size wz w4) := hide2 ((BW.out.alloc hsz _).grown hgrow4 (by simp; omega) (fun j e => (World.ownsRow.lt HROW.out j e).1))
          clear hown4 hgrow4 hat4 hb4 HNEW HROW BW
          subst ev
          go_frame
          go_wp2
          go_roundw
          case rel => exact ⟨k + 1, by omega, by rw [ES.out]; exact HH4, by go_num, BW4⟩
          case measure => simp [intOf]; omega
      · have e1 : k = 16 := by omega
        subst e1
        have RET : Hid (Hr wr wz.heap.size u3 (Lk.rds v)) := HU
        clear HU
        go_wp2
        go_ret
        exact ⟨_, rfl, RET.out, BW.out⟩

theorem beq_cast (a b : Nat) : ((a : Int) == (b : Int)) = (a == b) := by
  rw [Bool.eq_iff_iff, beq_iff_eq, beq_iff_eq]; omega
/-- Who is in the way, by the document. -/
def pA (v : Nat) (me : Int) (wr : Bool) (k : Nat) : Bool := !((k : Int) == me) && (((wtV v).2 && (wtV v).1 == k) || wr && v.testBit k)
theorem pA_agn {v m : Nat} {wr : Bool} (h : Lk.rt v = true) : upto (pA v (m : Int) wr) 16 = Lk.agn v m wr := by
  unfold upto Lk.agn
  refine List.filter_congr (fun k hk => ?_)
  unfold pA wtV
  rw [if_neg (by rw [h]; decide)]
  have e1 : ((k : Int) == (m : Int)) = (k == m) := beq_cast k m
  have e2 : (decide (v / 4294967296 ≠ 0) && v / 4294967296 - 1 == k) = (v / 4294967296 == k + 1) := by
    generalize v / 4294967296 = x
    cases x with
    | zero => simp
    | succ x => simp
  simp only [e1, e2]
/-- The ways a round may go. -/
theorem pA_cases (v : Nat) (me : Int) (wr : Bool) (k : Nat) :
    ((((k : Int) != me) = false) ∧ pA v me wr k = false) ∨ (((k : Int) != me) = true ∧ (
      ((wtV v).2 = true ∧ (((wtV v).1 : Int) == (k : Int)) = true ∧ pA v me wr k = true) ∨
      (((wtV v).2 = false ∨ (wtV v).2 = true ∧ (((wtV v).1 : Int) == (k : Int)) = false) ∧ (wr = false ∧ pA v me wr k = false ∨ wr = true ∧ pA v me wr k = v.testBit k)))) := by
  have e2 : (((wtV v).1 : Int) == (k : Int)) = ((wtV v).1 == k) := beq_cast _ _
  have e3 : ((k : Int) != me) = !((k : Int) == me) := rfl
  rw [e2, e3]
  unfold pA
  cases ((k : Int) == me) <;> cases (wtV v).2 <;> cases ((wtV v).1 == k) <;> cases wr <;> simp

theorem ragainst_ok {v m : Nat} {wrt : Bool} (hlt : v < 18446744073709551616) (hr : Lk.rt v = true) (hm : m < 16) (w : World) :
    Calls Tryd.prog 22 #[.int .u64 (v : Int), .int .i64 (m : Int), .bool wrt] w fun e w' => ∃ u, e = .returned u ∧ Hr w' w.heap.size u (Lk.agn v m wrt) ∧ Below w.heap.size w w' := by
  obtain ⟨i0, hi0, z0, z1, z2⟩ := info_parts info3
  have HR := hide2 (fun w => rright_any hlt w)
  have HW := hide2 (fun w => rworker_any (m : Int) w)
  have HT := hide2 (fun w => rWriter_any hlt w)
  have HB := hide2 (fun k hk w => rreads_any (v := v) (k := k) hlt hk w)
  have HP := hide2 (fun k => pA_cases v (m : Int) wrt k)
  rw [hr] at HR
  rw [isW_nat hm] at HW
  rw [← pA_agn hr]
  generalize (wtV v).1 = x at *
  generalize (wtV v).2 = has at *
  clear hr
  go_enter Tryd.func22, Tryd.ntmps22
  go_wp2_with fail
  refine (HR.out _).mono ?_
  rintro e w1 ⟨rfl, rfl⟩
  go_wp2_with fail
  refine (HW.out _).mono ?_
  rintro e w2 ⟨rfl, rfl⟩
  go_wp2_with fail
  refine (HT.out _).mono ?_
  rintro e wz ⟨rfl, rfl⟩
  go_wp2
  go_loopw [7, 12] (fun s i wr => ∃ k : Nat, k ≤ 16 ∧ Hid (Hr wr wz.heap.size s (upto (pA v (m : Int) wrt) k)) ∧ i = .int .i64 (k : Int) ∧ Hid (Below wz.heap.size wz wr)) (fun _ i _ => 16 - (intOf i).toNat)
  case atStart => exact ⟨0, Nat.zero_le _, hide2 (Hr.nil _ _), rfl, hide2 (Below.refl _ _)⟩
  case round =>
    obtain ⟨k, hk, HU, rfl, BW⟩ := hrel
    by_cases hlt2 : k < 16
    · have d1 : (k : Int) < 16 := by omega
      have hlen := upto_len (pA v (m : Int) wrt) k
      have HS := hide2 (upto_succ (pA v (m : Int) wrt) k)
      have HBK := hide2 (fun w => HB.out k (by omega) w)
      obtain ⟨ao, cp, rfl, hcp⟩ := HU.out.form
      have HROW := hide2 (show wr.ownsRow wz.heap.size 3 1 (.slice ao (upto (pA v (m : Int) wrt) k).length cp) (upto (pA v (m : Int) wrt) k).length ((upto (pA v (m : Int) wrt) k).map nv) from HU.out)
      have HNEW := hide2 (hcell_new wr (.int .i64 (k : Int)) 3)
      have hsz := BW.out.size
      have hcase := HP.out k
      clear HU HP HB
      generalize eq : upto (pA v (m : Int) wrt) (k + 1) = l2 at *
      have EQ := hide2 eq
      clear eq
      generalize upto (pA v (m : Int) wrt) k = l at *
      have ESF : pA v (m : Int) wrt k = false → Hid (l2 = l) := fun e => hide2 (by rw [HS.out, e]; rfl)
      have EST : pA v (m : Int) wrt k = true → Hid (l2 = l ++ [k]) := fun e => hide2 (by rw [HS.out, e]; rfl)
      have KF := hide2 ESF
      have KT := hide2 EST
      generalize v.testBit k = bt at *
      generalize pA v (m : Int) wrt k = pk at *
      clear ESF EST HS
      rcases hcase with ⟨hne, rfl⟩ | ⟨hne, ⟨rfl, hxk, rfl⟩ | ⟨rfl | ⟨rfl, hxk⟩, ⟨rfl, rfl⟩ | ⟨rfl, rfl⟩⟩⟩
      · have ES := KF.out rfl
        clear KF KT
        go_wp2_with fail
        refine (HBK.out _).mono ?_
        rintro e w3 ⟨rfl, rfl⟩
        go_wp2
        go_roundw
        case rel => exact ⟨k + 1, by omega, by rw [EQ.out, ES.out]; exact HROW, by go_num, BW⟩
        case measure => simp [intOf]; omega
      · have ES := KT.out rfl
        clear KF KT
        go_wp2_with fail
        refine (HBK.out _).mono ?_
        rintro e w3 ⟨rfl, rfl⟩
        go_wp2_with (at_builtin; refine Hid.out ?_)
        refine hide2 ?_
        refine wpList_append_own_at _ rfl _ _ 32 rfl wz.heap.size 3 i0 (.int .i64 0) 1 8 Tryd.underlying32 hi0 z0 z1 z2 rfl (by decide) (.slice ao l.length cp) _ _ rfl (World.ownsRow.alloc HROW.out _) ⟨w3.heap.size, 0, none⟩ 1 1 [.int .i64 (k : Int)] rfl rfl HNEW.out (by simp [Value.oneCell']) (by unfold maxLen; omega) (by omega) (by simp; omega) ?_
        intro v' w4 hown4 hgrow4 hat4 hb4
        obtain ⟨gt, capt, ev⟩ := ownsRow_succ hown4
        have HH4 : Hid (Hr w4 wz.heap.size v' (l ++ [k])) := hide2 (by
          unfold Hr
          rw [List.length_append, List.length_singleton, List.map_append]
          exact hown4)
        have BW4 : Hid (Below wz.heap.size wz w4) := hide2 ((BW.out.alloc hsz _).grown hgrow4 (by simp; omega) (fun j e => (World.ownsRow.lt HROW.out j e).1))
        clear hown4 hgrow4 hat4 hb4 HNEW HROW BW
        subst ev
        go_frame
        go_wp2
        go_roundw
        case rel => exact ⟨k + 1, by omega, by rw [EQ.out, ES.out]; exact HH4, by go_num, BW4⟩
        case measure => simp [intOf]; omega
      · have ES := KF.out rfl
        clear KF KT
        go_wp2_with fail
        refine (HBK.out _).mono ?_
        rintro e w3 ⟨rfl, rfl⟩
        go_wp2
        go_roundw
        case rel => exact ⟨k + 1, by omega, by rw [EQ.out, ES.out]; exact HROW, by go_num, BW⟩
        case measure => simp [intOf]; omega
      · cases pk with
        | false =>
          have ES := KF.out rfl
          clear KF KT
          go_wp2_with fail
          refine (HBK.out _).mono ?_
          rintro e w3 ⟨rfl, rfl⟩
          go_wp2
          go_roundw
          case rel => exact ⟨k + 1, by omega, by rw [EQ.out, ES.out]; exact HROW, by go_num, BW⟩
          case measure => simp [intOf]; omega
        | true =>
          have ES := KT.out rfl
          clear KF KT
          go_wp2_with fail
          refine (HBK.out _).mono ?_
          rintro e w3 ⟨rfl, rfl⟩
          go_wp2_with (at_builtin; refine Hid.out ?_)
          refine hide2 ?_
          refine wpList_append_own_at _ rfl _ _ 32 rfl wz.heap.size 3 i0 (.int .i64 0) 1 8 Tryd.underlying32 hi0 z0 z1 z2 rfl (by decide) (.slice ao l.length cp) _ _ rfl (World.ownsRow.alloc HROW.out _) ⟨w3.heap.size, 0, none⟩ 1 1 [.int .i64 (k : Int)] rfl rfl HNEW.out (by simp [Value.oneCell']) (by unfold maxLen; omega) (by omega) (by simp; omega) ?_
          intro v' w4 hown4 hgrow4 hat4 hb4
          obtain ⟨gt, capt, ev⟩ := ownsRow_succ hown4
          have HH4 : Hid (Hr w4 wz.heap.size v' (l ++ [k])) := hide2 (by
            unfold Hr
            rw [List.length_append, List.length_singleton, List.map_append]
            exact hown4)
          have BW4 : Hid (Below wz.heap.size wz w4) := hide2 ((BW.out.alloc hsz _).grown hgrow4 (by simp; omega) (fun j e => (World.ownsRow.lt HROW.out j e).1))
          clear hown4 hgrow4 hat4 hb4 HNEW HROW BW
          subst ev
          go_frame
          go_wp2
          go_roundw
          case rel => exact ⟨k + 1, by omega, by rw [EQ.out, ES.out]; exact HH4, by go_num, BW4⟩
          case measure => simp [intOf]; omega
      · have ES := KF.out rfl
        clear KF KT
        go_wp2_with fail
        refine (HBK.out _).mono ?_
        rintro e w3 ⟨rfl, rfl⟩
        go_wp2
        go_roundw
        case rel => exact ⟨k + 1, by omega, by rw [EQ.out, ES.out]; exact HROW, by go_num, BW⟩
        case measure => simp [intOf]; omega
      · cases pk with
        | false =>
          have ES := KF.out rfl
          clear KF KT
          go_wp2_with fail
          refine (HBK.out _).mono ?_
          rintro e w3 ⟨rfl, rfl⟩
          go_wp2
          go_roundw
          case rel => exact ⟨k + 1, by omega, by rw [EQ.out, ES.out]; exact HROW, by go_num, BW⟩
          case measure => simp [intOf]; omega
        | true =>
          have ES := KT.out rfl
          clear KF KT
          go_wp2_with fail
          refine (HBK.out _).mono ?_
          rintro e w3 ⟨rfl, rfl⟩
          go_wp2_with (at_builtin; refine Hid.out ?_)
          refine hide2 ?_
          refine wpList_append_own_at _ rfl _ _ 32 rfl wz.heap.size 3 i0 (.int .i64 0) 1 8 Tryd.underlying32 hi0 z0 z1 z2 rfl (by decide) (.slice ao l.length cp) _ _ rfl (World.ownsRow.alloc HROW.out _) ⟨w3.heap.size, 0, none⟩ 1 1 [.int .i64 (k : Int)] rfl rfl HNEW.out (by simp [Value.oneCell']) (by unfold maxLen; omega) (by omega) (by simp; omega) ?_
          intro v' w4 hown4 hgrow4 hat4 hb4
          obtain ⟨gt, capt, ev⟩ := ownsRow_succ hown4
          have HH4 : Hid (Hr w4 wz.heap.size v' (l ++ [k])) := hide2 (by
            unfold Hr
            rw [List.length_append, List.length_singleton, List.map_append]
            exact hown4)
          have BW4 : Hid (Below wz.heap.size wz w4) := hide2 ((BW.out.alloc hsz _).grown hgrow4 (by simp; omega) (fun j e => (World.ownsRow.lt HROW.out j e).1))
          clear hown4 hgrow4 hat4 hb4 HNEW HROW BW
          subst ev
          go_frame
          go_wp2
          go_roundw
          case rel => exact ⟨k + 1, by omega, by rw [EQ.out, ES.out]; exact HH4, by go_num, BW4⟩
          case measure => simp [intOf]; omega
    · have e1 : k = 16 := by omega
      subst e1
      have RET := HU
      clear HU
      go_wp2
      go_ret
      exact ⟨_, rfl, RET.out, BW.out⟩

theorem ragainst_bad {v : Nat} {me : Int} {wrt : Bool} (hlt : v < 18446744073709551616) (hb : isW me = false ∨ Lk.rt v = false) (w : World) :
    Calls Tryd.prog 22 #[.int .u64 (v : Int), .int .i64 me, .bool wrt] w fun e w' => e = .returned (.slice none 0 0) ∧ w' = w := by
  have HR := hide2 (fun w => rright_any hlt w)
  have HW := hide2 (fun w => rworker_any me w)
  generalize Lk.rt v = b at *
  generalize isW me = c at *
  have hcs : b = false ∨ b = true ∧ c = false := by cases b <;> cases c <;> simp at hb ⊢
  clear hb
  rcases hcs with rfl | ⟨rfl, rfl⟩
  all_goals
    go_enter Tryd.func22, Tryd.ntmps22
    go_wp2_with fail
    refine (HR.out _).mono ?_
    rintro e w1 ⟨rfl, rfl⟩
    go_wp2_with fail
    refine (HW.out _).mono ?_
    rintro e w2 ⟨rfl, rfl⟩
    go_wp2
    go_ret
    exact ⟨rfl, rfl⟩
theorem rAgainst_any {v : Nat} {me : Int} {wrt : Bool} (hlt : v < 18446744073709551616) (w : World) :
    Calls Tryd.prog 22 #[.int .u64 (v : Int), .int .i64 me, .bool wrt] w fun e w' => ∃ u, e = .returned u ∧ Hr w' w.heap.size u (agV v me wrt) ∧ Below w.heap.size w w' := by
  unfold agV
  by_cases h : isW me = false
  · rw [if_pos h]
    refine (ragainst_bad hlt (.inl h) w).mono ?_
    rintro e w' ⟨rfl, rfl⟩
    exact ⟨_, rfl, Hr.nil _ _, Below.refl _ _⟩
  · rw [if_neg h]
    obtain ⟨e, hm⟩ := isW_toNat (notFalse h)
    by_cases hr : Lk.rt v = false
    · rw [if_pos hr]
      refine (ragainst_bad hlt (.inr hr) w).mono ?_
      rintro e w' ⟨rfl, rfl⟩
      exact ⟨_, rfl, Hr.nil _ _, Below.refl _ _⟩
    · rw [if_neg hr]
      have := ragainst_ok (wrt := wrt) hlt (notFalse hr) hm w
      rwa [e] at this
end
end Go.Proofs.YtbmgclnhooaniaaDoor
