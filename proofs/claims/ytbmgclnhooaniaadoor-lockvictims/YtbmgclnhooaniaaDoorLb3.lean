/-
  Lb3: Readers do not hang on the order in which they came (LockReaders).
-/
import Derived.Test.YtbmgclnhooaniaaDoorLb2
import Derived.Test.YtbmgclnhooaniaaDoorLkL
set_option linter.unusedVariables false
set_option linter.unusedSimpArgs false
namespace Go.Proofs.YtbmgclnhooaniaaDoor
open Go.RowKit

/-- Those of a row that are workers. -/
def wk (l : List Int) : List Nat := (l.filter isW).map Int.toNat
theorem wk_lt {l : List Int} : ∀ y ∈ wk l, y < 16 := fun y hy => by
  obtain ⟨x, hx, rfl⟩ := List.mem_map.1 hy
  exact (isW_toNat (List.mem_filter.1 hx).2).2
theorem wk_snoc (l : List Int) (x : Int) : wk (l ++ [x]) = if isW x = true then wk l ++ [x.toNat] else wk l := by
  unfold wk
  rw [List.filter_append]
  by_cases h : isW x = true
  · rw [if_pos h]; simp [h]
  · rw [if_neg h]; simp [h]
theorem wk_rev {l : List Int} {y : Nat} : y ∈ wk l ↔ y ∈ wk l.reverse := by
  unfold wk
  simp [List.mem_map, List.mem_filter]
/-- All of a row have come. -/
def cm (l : List Int) : Nat := Lk.cme (wk l) 0
theorem cm_lt (l : List Int) : cm l < 65536 := Lk.cme_lt (by decide) wk_lt
theorem cm_rev (l : List Int) : cm l.reverse = cm l := (Lk.cme_same wk_lt (fun y => wk_rev)).symm
theorem cm_snoc (l : List Int) (x : Int) : cm (l ++ [x]) = if isW x = true then Lk.rdd (cm l) x.toNat else cm l := by
  unfold cm
  rw [wk_snoc]
  split
  · unfold Lk.cme; rw [List.foldl_append]; rfl
  · rfl
theorem wo_small {r : Nat} (h : r < 65536) : Lk.Wo r r 0 := ⟨by omega, h, Nat.zero_le _⟩
theorem rd_small {r : Nat} {x : Int} (h : r < 65536) : rdV r x = if isW x = true then (Lk.rdd r x.toNat, true, 0) else (0, false, 2) := by
  unfold rdV
  by_cases hx : isW x = true
  · rw [if_neg (by simp [hx]), if_pos hx, if_neg (by rw [(wo_small h).rt]; decide), if_pos ((Lk.agn_read (wo_small h) (isW_toNat hx).2).2 (.inl rfl))]
  · rw [if_pos (by simpa using hx), if_neg hx]
theorem rs_small {r : Nat} (h : r < 65536) : rsV r = Lk.rds r := by unfold rsV; rw [if_neg (by rw [(wo_small h).rt]; decide)]
theorem lv_small {r k : Nat} (h : r < 65536) (hk : k < 16) : lvV r (k : Int) = (Lk.lvr r k, 0) := by
  unfold lvV
  rw [if_neg (by rw [isW_nat hk]; decide), if_neg (by rw [(wo_small h).rt]; decide)]
  simp [Lk.lvd_small h hk]
theorem gon_snoc (l : List Nat) (k w : Nat) : Lk.gon (l ++ [k]) w = Lk.lvr (Lk.gon l w) k := by unfold Lk.gon; rw [List.foldl_append]; rfl
theorem take_snoc {α : Type} {l : List α} {i : Nat} {x : α} (h : l[i]? = some x) : l.take (i + 1) = l.take i ++ [x] := by
  rw [List.take_add_one, h]; rfl

section
set_option maxHeartbeats 4000000
set_option maxRecDepth 100000
variable {w : World} {ao : Option Addr} {len cap : Nat} {xs : List Int}
theorem lockReaders_walk (hT : Tab w) (h : Ints .i64 w ao len cap xs) :
    Calls Tryd.prog 7 #[.slice ao len cap] w fun e w' => e = .returned (.bool true) ∧ Below w.heap.size w w' := by
  have HS := hide2 (shown_any w)
  have HR := hide2 (fun (v : Nat) (me : Int) (hv : v < 65536) (w : World) => Read_any (v := v) (me := me) (by omega) w)
  have HT := hide2 hT
  have hcap := h.2.1
  have hmax := h.2.2.1
  unfold maxLen at hmax
  have H := hide2 h
  have hxl := h.1
  clear hT h
  unfold ans3 at HR
  go_enter Tryd.func7, Tryd.ntmps7
  go_wp2_with fail
  refine HS.out.mono ?_
  rintro e w1 ⟨rfl, hw1⟩
  have B1 := hide2 hw1
  clear hw1 HS
  go_wp2
  go_loopw [4, 5, 6] (fun a b i wr => ∃ k : Nat, k ≤ len ∧ a = .int .u64 (cm (xs.take k) : Int) ∧ b = .int .u64 (cm (xs.reverse.take k) : Int) ∧ i = .int .i64 (k : Int) ∧ Hid (Below w.heap.size w wr)) (fun _ _ i _ => len - (intOf i).toNat)
  case atStart => exact ⟨0, Nat.zero_le _, rfl, rfl, rfl, B1⟩
  case round =>
    obtain ⟨k, hk, rfl, rfl, rfl, BR⟩ := hrel
    by_cases hlt : k < len
    · have d1 : decide ((k : Int) < (len : Int)) = true := by simp; omega
      have d2 : (k : Int) < (len : Int) := by omega
      obtain ⟨x, hx⟩ := some_at hxl hlt
      have hk2 : len - 1 - k < len := by omega
      obtain ⟨y, hy⟩ := some_at hxl hk2
      have hyr : xs.reverse[k]? = some y := by
        rw [List.getElem?_reverse (by omega), hxl]; exact hy
      have HA := hide2 (cm_snoc (xs.take k) x)
      have HB := hide2 (cm_snoc (xs.reverse.take k) y)
      rw [← take_snoc hx] at HA
      rw [← take_snoc hyr] at HB
      have ha := cm_lt (xs.take k)
      have hb := cm_lt (xs.reverse.take k)
      have HRA := hide2 (fun w => HR.out (cm (xs.take k)) x ha w)
      have HRB := hide2 (fun w => HR.out (cm (xs.reverse.take k)) y hb w)
      rw [rd_small ha] at HRA
      rw [rd_small hb] at HRB
      obtain ⟨g, off, rfl, hgl, hcell⟩ := H.out.2.2.2 (by omega)
      have c1 : w.cell? ⟨g, off + k, none⟩ = some (.int .i64 x) := by have := hcell k x hx 0 _ rfl; simpa using this
      have c2 : w.cell? ⟨g, off + (len - 1 - k), none⟩ = some (.int .i64 y) := by have := hcell _ y hy 0 _ rfl; simpa using this
      have q1 : wr.cell? ⟨g, off + k, none⟩ = some (.int .i64 x) := (BR.out.cell (p := ⟨g, off + k, none⟩) hgl).trans c1
      have C2 := hide2 c2
      obtain ⟨j, hj⟩ : ∃ j : Nat, len - 1 - k = j := ⟨_, rfl⟩
      rw [hj] at C2
      have ek : (len : Int) - 1 - (k : Int) = (j : Int) := by omega
      have ek2 : (j : Int) < (len : Int) := by omega
      clear hcell hx hy hyr c1 c2 hj hk2
      generalize ea' : cm (xs.take (k + 1)) = a' at *
      generalize eb' : cm (xs.reverse.take (k + 1)) = b' at *
      have EA := hide2 ea'
      have EB := hide2 eb'
      clear ea' eb'
      generalize cm (xs.take k) = a at *
      generalize cm (xs.reverse.take k) = b at *
      obtain ⟨p0, p1, p2, CA, oA⟩ : ∃ (p0 : Nat) (p1 : Bool) (p2 : Int), Hid (∀ w, Calls Tryd.prog 10 #[.int .u64 (a : Int), .int .i64 x] w fun e w' => e = .returned (.tuple #[.int .u64 (p0 : Int), .bool p1, .int .i64 p2]) ∧ Below w.heap.size w w') ∧ (p1 = true ∧ p2 = 0 ∧ p0 = a' ∨ p1 = false ∧ p2 = 2 ∧ a = a') := by
        refine ⟨_, _, _, HRA, ?_⟩
        rw [HA.out]
        by_cases q : isW x = true
        · exact .inl (by simp [q])
        · exact .inr (by simp [q])
      obtain ⟨r0, r1, r2, CB, oB⟩ : ∃ (p0 : Nat) (p1 : Bool) (p2 : Int), Hid (∀ w, Calls Tryd.prog 10 #[.int .u64 (b : Int), .int .i64 y] w fun e w' => e = .returned (.tuple #[.int .u64 (p0 : Int), .bool p1, .int .i64 p2]) ∧ Below w.heap.size w w') ∧ (p1 = true ∧ p2 = 0 ∧ p0 = b' ∨ p1 = false ∧ p2 = 2 ∧ b = b') := by
        refine ⟨_, _, _, HRB, ?_⟩
        rw [HB.out]
        by_cases q : isW y = true
        · exact .inl (by simp [q])
        · exact .inr (by simp [q])
      clear HRA HRB HA HB
      rcases oA with ⟨rfl, rfl, rfl⟩ | ⟨rfl, rfl, rfl⟩ <;> rcases oB with ⟨rfl, rfl, rfl⟩ | ⟨rfl, rfl, rfl⟩
      all_goals
        go_wp2_with fail
        refine (CA.out _).mono ?_
        rintro e w2 ⟨rfl, hw2⟩
        have B2 := hide2 (BR.out.trans (hw2.mono BR.out.size))
        have q2 : w2.cell? ⟨g, off + j, none⟩ = some (.int .i64 y) := (B2.out.cell (p := ⟨g, off + j, none⟩) hgl).trans C2.out
        clear hw2 CA q1 BR
        go_wp2_with fail
        refine (CB.out _).mono ?_
        rintro e w3 ⟨rfl, hw3⟩
        have B3 := hide2 (B2.out.trans (hw3.mono B2.out.size))
        clear hw3 CB q2 B2
        go_wp2
        go_roundw
        case rel => exact ⟨k + 1, by omega, by rw [EA.out], by rw [EB.out], by go_num, B3⟩
        case measure => simp [intOf]; omega
    · have e1 : k = len := by omega
      subst e1
      have d1 : decide ((k : Int) < (k : Int)) = false := by simp
      have ea : xs.take k = xs := List.take_of_length_le (by omega)
      have eb : xs.reverse.take k = xs.reverse := List.take_of_length_le (by simp; omega)
      rw [ea, eb, cm_rev]
      have ha := cm_lt xs
      clear HR H
      generalize cm xs = a at *
      have HRS := hide2 (fun w hT => Readers_any (v := a) (by omega) w hT)
      rw [rs_small ha] at HRS
      have HLV := hide2 (fun (v : Nat) (k : Nat) (hv : v < 65536) (hk : k < 16) (w : World) => Leave_any (v := v) (me := (k : Int)) (by omega) w)
      have HN := hide2 (Lk.rds_nd a)
      have HG := hide2 (Lk.gon_all (r := a) ha)
      have hll := rds_len a
      go_wp2_with fail
      refine (HRS.out _ (HT.out.keep BR.out)).mono ?_
      rintro e w2 ⟨u, rfl, hu, hw2⟩
      have B2 := hide2 (BR.out.trans (hw2.mono BR.out.size))
      have HZ0 := hide2 BR.out.size
      obtain ⟨au, cu, rfl, hcu⟩ := hu.form
      have HU := hide2 hu
      have hmu := hu.seq.2.2.1
      unfold maxLen at hmu
      clear hu hw2 BR
      go_wp2
      go_loopw [4, 14] (fun a' i wr => ∃ j : Nat, j ≤ (Lk.rds a).length ∧ a' = .int .u64 (Lk.gon ((Lk.rds a).take j) a : Int) ∧ i = .int .i64 (j : Int) ∧ Hid (Below w2.heap.size w2 wr)) (fun _ i _ => (Lk.rds a).length - (intOf i).toNat)
      case atStart => exact ⟨0, Nat.zero_le _, rfl, rfl, hide2 (Below.refl _ _)⟩
      case round =>
        obtain ⟨j, hj, rfl, rfl, B3⟩ := hrel
        by_cases hlt2 : j < (Lk.rds a).length
        · obtain ⟨z, hz⟩ := some_at (l := Lk.rds a) rfl hlt2
          have hzm := List.mem_of_getElem? hz
          have hz16 : z < 16 := (Lk.mem_rds.1 hzm).1
          have hbit : (Lk.gon ((Lk.rds a).take j) a).testBit z = true := by
            rw [Lk.gon_bit, (Lk.mem_rds.1 hzm).2]
            have : z ∉ (Lk.rds a).take j := fun q => by
              have nd := HN.out
              rw [← List.take_append_drop j (Lk.rds a)] at nd
              have := (List.nodup_append.1 nd).2.2 z q z (by
                rw [List.mem_iff_getElem?]
                exact ⟨0, by rw [List.getElem?_drop]; simpa using hz⟩)
              exact this rfl
            simp [this]
          have hless := Lk.lvr_less hbit
          have hgl := Lk.gon_lt (l := (Lk.rds a).take j) ha
          have HL1 := hide2 (fun w => HLV.out _ z hgl hz16 w)
          rw [lv_small hgl hz16] at HL1
          have HGS := hide2 (gon_snoc ((Lk.rds a).take j) z a)
          rw [← take_snoc hz] at HGS
          obtain ⟨g, rfl, hgb, hgw, hcell⟩ := HU.out.cell hlt2
          have c1 : wr.cell? ⟨g, j, none⟩ = some (.int .i64 (z : Int)) := by
            have := hcell j hlt2
            simp only [List.getD, hz, Option.getD_some, nv] at this
            exact (B3.out.cell (p := ⟨g, j, none⟩) hgw).trans this
          have d1 : decide ((j : Int) < ((Lk.rds a).length : Int)) = true := by simp; omega
          have d2 : (j : Int) < ((Lk.rds a).length : Int) := by omega
          clear hcell hz hbit hzm
          generalize ea2 : Lk.gon ((Lk.rds a).take (j + 1)) a = a2 at *
          have EA2 := hide2 ea2
          clear ea2
          generalize Lk.gon ((Lk.rds a).take j) a = a1 at *
          generalize Lk.lvr a1 z = a3 at *
          have hless2 : (a3 : Int) < (a1 : Int) := by omega
          generalize (Lk.rds a).length = m at *
          go_wp2_with fail
          refine (HL1.out _).mono ?_
          rintro e w4 ⟨rfl, hw4⟩
          have B4 := hide2 (B3.out.trans (hw4.mono B3.out.size))
          clear hw4
          go_wp2
          go_roundw
          case rel => exact ⟨j + 1, by omega, by rw [EA2.out, HGS.out], by go_num, B4⟩
          case measure => simp [intOf]; omega
        · have e1 : j = (Lk.rds a).length := by omega
          subst e1
          rw [List.take_length, HG.out]
          have d1 : decide (((Lk.rds a).length : Int) < ((Lk.rds a).length : Int)) = false := by simp
          have BW := hide2 (B2.out.trans (B3.out.mono B2.out.size))
          have HU2 := hide2 (HU.out.keep B3.out)
          clear HLV HN HG
          go_wp2_with fail
          refine (HRS.out _ (HT.out.keep BW.out)).mono ?_
          rintro e w4 ⟨v2, rfl, hu2, hw4⟩
          have B4 := hide2 (BW.out.trans (hw4.mono BW.out.size))
          obtain ⟨av, cv, rfl, hcv⟩ := hu2.form
          have HI := hide2 (ints_same (HU2.out.keep hw4).seq hu2.seq)
          clear hw4 hu2 HU2 HU
          go_wp2_with fail
          refine HI.out.mono ?_
          rintro e w5 ⟨rfl, q, rfl⟩
          go_wp2
          go_ret
          exact ⟨rfl, below_drewN B4.out q⟩
end
end Go.Proofs.YtbmgclnhooaniaaDoor
