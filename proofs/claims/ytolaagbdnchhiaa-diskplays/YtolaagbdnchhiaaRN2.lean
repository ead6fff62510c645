/-
  The document's own rows of names: with, changed.
-/
import Derived.Test.YtolaagbdnchhiaaRN
import Derived.Laws.AppendOwnNone
set_option linter.unusedVariables false
set_option linter.unusedSimpArgs false
namespace Go.Proofs.Ytolaagbdnchhiaa
open Go.RowKit Go.Maps

def nless (a b : ByteArray) : Bool := Op.bytesLess a.toList b.toList
def nwith (l : NL) (s : ByteArray) (i : Int) : NL := (nwithout l s).takeWhile (fun p => nless p.1 s) ++ [(s, i)] ++ (nwithout l s).dropWhile (fun p => nless p.1 s)

theorem while_at {α : Type} (f : α → Bool) : ∀ (l : List α) (k : Nat), (∀ x ∈ l.take k, f x = true) → (∀ x, l[k]? = some x → f x = false) → l.takeWhile f = l.take k ∧ l.dropWhile f = l.drop k
  | [], k, _, _ => by simp
  | x :: l, 0, _, h => by
    have := h x rfl
    simp [List.takeWhile, List.dropWhile, this]
  | x :: l, k + 1, h1, h2 => by
    have hx : f x = true := h1 x (by simp)
    obtain ⟨e1, e2⟩ := while_at f l k (fun y hy => h1 y (by simp [hy])) (fun y hy => h2 y (by simpa using hy))
    simp [List.takeWhile, List.dropWhile, hx, e1, e2]

/-- The rest of a row, as a slice. -/
theorem Nr.from {w : World} {B : Nat} {v : Value} {l : NL} (h : Nr w B v l) (k : Nat) (hk : k ≤ l.length) :
    (v = .slice none 0 0 ∧ l = [] ∧ ∀ u : World, (Instr.slice 63 v (some (.int .i64 (k : Int))) none none).run Try.prog u = .ok (.slice none 0 0) u) ∨
    ∃ g o c, g < w.heap.size ∧ (∀ u : World, (Instr.slice 63 v (some (.int .i64 (k : Int))) none none).run Try.prog u = .ok (.slice (some ⟨g, o, none⟩) (l.length - k) c) u) ∧ ∀ j x, (nc (l.drop k))[j]? = some x → w.cell? ⟨g, o + j, none⟩ = some x := by
  have ht : Try.prog.underlying 63 = some (.slice (Try.prog.elem 63)) := by kernel_rfl
  have he : Try.prog.elem 63 = 101 := by kernel_rfl
  have hs : ∀ u : World, (Go.sizeOf 101).run Try.prog u = .ok 2 u := fun u => by kernel_rfl
  rcases h.2 with ⟨rfl, h0⟩ | ⟨g, cap, cur, rfl, hB, hh, hle, hm, hsz, htk⟩
  · have hl : l = [] := List.eq_nil_of_length_eq_zero h0
    subst hl
    have hk0 : k = 0 := by simpa using hk
    subst hk0
    refine .inl ⟨rfl, rfl, fun u => ?_⟩
    rw [run_slice_l u 63 none 0 0 ht .i64 ((0 : Nat) : Int) (by omega) (by omega), he, hs]
    simp [Result.andThen, sliced]
  · have hgl := (Array.getElem?_eq_some_iff.1 hh).1
    refine .inr ⟨g, if cap = k then 0 else k * 2, cap - k, hgl, fun u => ?_, fun j x hx => ?_⟩
    · rw [run_slice_l u 63 (some ⟨g, 0, none⟩) l.length cap ht .i64 (k : Int) (by omega) (by omega), he, hs]
      simp only [Result.andThen, sliced, Int.toNat_natCast]
      by_cases e : cap = k
      · rw [if_pos e, if_pos e]
      · rw [if_neg e, if_neg e]
        simp [addr_add]
    · have hj := (List.getElem?_eq_some_iff.1 hx).1
      rw [nc_len, List.length_drop] at hj
      rw [if_neg (by omega)]
      have h1 := World.ownsRow.cellAt h (k * 2 + j) (by omega)
      rw [h1]
      have e2 : nc l = nc (l.take k) ++ nc (l.drop k) := by rw [← nc_append, List.take_append_drop]
      have e3 : (nc (l.take k)).length = k * 2 := by rw [nc_len, List.length_take, Nat.min_eq_left hk]
      rw [e2, List.getElem?_append_right (by omega), e3, Nat.add_sub_cancel_left]
      exact hx

theorem nc_one (l : NL) : ∀ u ∈ nc l, u.oneCell' = true := by
  intro u hu
  obtain ⟨p, _, hp⟩ := List.mem_flatMap.1 hu
  simp at hp
  rcases hp with rfl | rfl <;> rfl
theorem nwithout_le (l : NL) (s : ByteArray) : (nwithout l s).length ≤ l.length := List.length_filter_le _ _

set_option maxRecDepth 100000 in
set_option maxHeartbeats 4000000 in
theorem with_ref {w : World} {B : Nat} {v : Value} {l : NL} (h : Nr w B v l) (hl : l.length ≤ 100000) (s : ByteArray) (at0 : Int) :
    Calls Try.prog 70 #[v, .string s, .int .i64 at0] w fun e w' => ∃ v', e = .returned v' ∧ Nr w' w.heap.size v' (nwith l s at0) ∧ Below w.heap.size w w' := by
  obtain ⟨i0, hi, hz0, hz1, hz2⟩ := info_parts infoN
  have HW := hide2 (without_ref h hl s)
  have hrl : (nwithout l s).length ≤ 100000 := Nat.le_trans (nwithout_le l s) hl
  clear h
  go_enter Try.func70, Try.ntmps70
  go_wp2_with fail
  refine HW.out.mono ?_
  rintro e w1 ⟨rv, rfl, hr, hB1⟩
  have hw : nwith l s at0 = (nwithout l s).takeWhile (fun p => nless p.1 s) ++ [(s, at0)] ++ (nwithout l s).dropWhile (fun p => nless p.1 s) := rfl
  have HWD := hide2 hw
  clear HW hw
  generalize nwithout l s = R at *
  have hs1 := hB1.size
  obtain ⟨ao, cap, rfl⟩ := hr.form
  have HR := hide2 hr
  have HROW := hide2 hr.row
  clear hr
  go_wp2
  go_loopw [8, 9] (fun v i wr => ∃ k : Nat, k ≤ R.length ∧ i = .int .i64 k ∧ (∀ x ∈ R.take k, nless x.1 s = true) ∧ Nr wr w1.heap.size v (R.take k) ∧ Below w1.heap.size w1 wr) (fun _ i _ => R.length - (intOf i).toNat)
  case atStart => exact ⟨0, by omega, rfl, fun x hx => by simp at hx, ⟨rfl, .inl ⟨rfl, rfl⟩⟩, Below.refl _ _⟩
  case round =>
    obtain ⟨k, hk, rfl, hall, hown, hB⟩ := hrel
    have hsz := hB.size
    have htl : (R.take k).length = k := by rw [List.length_take, Nat.min_eq_left hk]
    by_cases hgo : ∃ p, R[k]? = some p ∧ nless p.1 s = true
    · obtain ⟨p, hp, hps⟩ := hgo
      have hkl := (List.getElem?_eq_some_iff.1 hp).1
      obtain ⟨g, cap', e, hg, hgl, hcell⟩ := HROW.out (by omega)
      cases e
      obtain ⟨q0, q1⟩ := hcell k p hp
      have c0 : wr.cell? ⟨g, k * 2, none⟩ = some (.string p.1) := (hB.cell (p := ⟨g, k * 2, none⟩) hgl).trans q0
      have c1 : wr.cell? ⟨g, k * 2 + 1, none⟩ = some (.int .i64 p.2) := (hB.cell (p := ⟨g, k * 2 + 1, none⟩) hgl).trans q1
      have hts : R.take (k + 1) = R.take k ++ [p] := by rw [List.take_add_one, hp]; rfl
      have hc2 : (k : Int) < (R.length : Int) := by omega
      have t3 : decide ((k : Int) < (R.length : Int)) = true := by simpa using hkl
      have t4 : decide (k < R.length) = true := by simpa using hkl
      have t1 : Op.bytesLess p.1.toList s.toList = true := hps
      have HTS := hide2 hts
      have HO := hide2 hown
      have HALL := hide2 hall
      clear hcell q0 q1 hts hown hall
      go_wp2_with (first
        | (at_builtin; refine Hid.out ?_)
        | go_in)
      refine hide2 ?_
      refine wpList_append_own _ rfl _ _ 63 rfl w1.heap.size 101 i0 (.agg #[.string .empty, .int .i64 0]) 2 24 Try.underlying63 hi hz0 hz1 hz2 rfl (by decide) u8 _ _ rfl (World.ownsRow.alloc HO.out _) ⟨wr.heap.size, 0, none⟩ 1 1 [.string p.1, .int .i64 p.2] rfl rfl (cell_two_new _ _ _ _) (by intro u hu; simp at hu; rcases hu with rfl | rfl <;> rfl) (by unfold maxLen; omega) (by omega) (by simp; omega) ?_
      intro v' w2 hown' hgrow _
      have hB2 : Below w1.heap.size w1 w2 := (hB.alloc hsz (.cells #[.string p.1, .int .i64 p.2] 101)).trans ((Below.refl _ _).grown hgrow (by simp; omega) fun k hk => (World.ownsRow.lt HO.out k hk).1)
      have ho2 : Nr w2 w1.heap.size v' (R.take k ++ [p]) := by
        unfold Nr
        rw [nc_append, List.length_append]
        exact hown'
      have hall2 : ∀ x ∈ R.take (k + 1), nless x.1 s = true := fun x hx => by
        rw [HTS.out] at hx
        rcases List.mem_append.1 hx with hx | hx
        · exact HALL.out x hx
        · simp at hx; subst hx; exact hps
      have HA2 := hide2 hall2
      clear hown' hgrow HO c0 c1 hall2 HALL
      go_frame
      go_wp2
      go_roundw
      case rel => exact ⟨k + 1, by omega, by go_num, HA2.out, by rw [HTS.out]; exact ho2, hB2⟩
      case measure => simp [intOf]; omega
    · have hstop : ∀ x, R[k]? = some x → nless x.1 s = false := fun x hx => by
        cases e : nless x.1 s with
        | false => rfl
        | true => exact absurd ⟨x, hx, e⟩ hgo
      obtain ⟨e1, e2⟩ := while_at (fun p : ByteArray × Int => nless p.1 s) R k hall hstop
      have hfin : nwith l s at0 = R.take k ++ [(s, at0)] ++ R.drop k := by rw [HWD.out, e1, e2]
      have HFIN := hide2 hfin
      have HO := hide2 hown
      have hfrom := HR.out.from k hk
      clear e1 e2 hfin hall hown hgo HWD
      have hfr2 : ∀ ad : Addr, (∀ j x, (nc (R.drop k))[j]? = some x → w1.cell? (ad.add j) = some x) → True := fun _ _ => trivial
      by_cases hkl : k < R.length
      · obtain ⟨p, hp⟩ : ∃ p, R[k]? = some p := ⟨R[k], List.getElem?_eq_getElem hkl⟩
        obtain ⟨g, cap', e, hg, hgl, hcell⟩ := HROW.out (by omega)
        cases e
        obtain ⟨q0, q1⟩ := hcell k p hp
        have c0 : wr.cell? ⟨g, k * 2, none⟩ = some (.string p.1) := (hB.cell (p := ⟨g, k * 2, none⟩) hgl).trans q0
        have t1 : Op.bytesLess p.1.toList s.toList = false := hstop p hp
        have hc2 : (k : Int) < (R.length : Int) := by omega
        have t3 : decide ((k : Int) < (R.length : Int)) = true := by simpa using hkl
        have t4 : decide (k < R.length) = true := by simpa using hkl
        have HFROM := hide2 hfrom
        clear hcell q0 q1 hstop hfrom hfr2
        go_wp2_with (first
          | (at_builtin; refine Hid.out ?_)
          | go_in)
        refine hide2 ?_
        refine wpList_append_own _ rfl _ _ 63 rfl w1.heap.size 101 i0 (.agg #[.string .empty, .int .i64 0]) 2 24 Try.underlying63 hi hz0 hz1 hz2 rfl (by decide) u8 _ _ rfl (World.ownsRow.alloc HO.out _) ⟨wr.heap.size, 0, none⟩ 1 1 [.string s, .int .i64 at0] rfl rfl (cell_two_new _ _ _ _) (by intro u hu; simp at hu; rcases hu with rfl | rfl <;> rfl) (by unfold maxLen; omega) (by omega) (by simp; omega) ?_
        intro v' w2 hown' hgrow _
        have hB2 : Below w1.heap.size w1 w2 := (hB.alloc hsz (.cells #[.string s, .int .i64 at0] 101)).trans ((Below.refl _ _).grown hgrow (by simp; omega) fun k hk => (World.ownsRow.lt HO.out k hk).1)
        have ho2 : Nr w2 w1.heap.size v' (R.take k ++ [(s, at0)]) := by
          unfold Nr
          rw [nc_append, List.length_append]
          exact hown'
        have hs2 := hB2.size
        have HO2 := hide2 ho2
        have hdl : (nc (R.drop k)).length = (R.length - k) * 2 := by rw [nc_len, List.length_drop]
        clear hown' hgrow HO ho2
        go_frame
        rcases HFROM.out with ⟨hv, hR, hsl⟩ | ⟨ag, ao2, c, hadl, hsl, hcells⟩
        · exact absurd hkl (by rw [hR]; simp)
        · have hcells2 : ∀ j x, (nc (R.drop k))[j]? = some x → w2.cell? ((⟨ag, ao2, none⟩ : Addr).add j) = some x := fun j x hx => by
            rw [addr_add]
            exact (hB2.cell (p := ⟨ag, ao2 + j, none⟩) hadl).trans (hcells j x hx)
          have HC2 := hide2 hcells2
          clear HFROM hcells hcells2
          go_wp2_with (first
            | (at_builtin; refine Hid.out ?_)
            | go_in)
          refine hide2 ?_
          refine wpList_append_own _ rfl _ _ 63 rfl w1.heap.size 101 i0 (.agg #[.string .empty, .int .i64 0]) 2 24 Try.underlying63 hi hz0 hz1 hz2 rfl (by decide) v' _ _ rfl HO2.out ⟨ag, ao2, none⟩ (R.length - k) c (nc (R.drop k)) rfl hdl HC2.out (fun u hu => nc_one _ u hu) (by simp; unfold maxLen; omega) (by simp; omega) hs2 ?_
          intro v'' w3 hown3 hgrow3 _
          have hB3 : Below w1.heap.size w1 w3 := hB2.trans ((Below.refl _ _).grown hgrow3 hs2 fun k hk => (World.ownsRow.lt HO2.out k hk).1)
          have ho3 : Nr w3 w.heap.size v'' (nwith l s at0) := by
            rw [HFIN.out]
            refine Go.Joins.ownsRow_le (base := w1.heap.size) ?_ hs1
            have e9 : (R.take k ++ [(s, at0)] ++ R.drop k).length = (R.take k ++ [(s, at0)]).length + (R.length - k) := by rw [List.length_append, List.length_drop]
            rw [nc_append (R.take k ++ [(s, at0)]), e9]
            exact hown3
          have HO3 := hide2 ho3
          have HBB : Hid (Below w.heap.size w w3) := hide2 (hB1.trans (hB3.mono hs1))
          clear hsl hown3 hgrow3 ho3 HC2 HO2 HFIN
          go_frame
          go_wp2
          go_ret
          exact ⟨_, rfl, HO3.out, HBB.out⟩
      · have t3 : decide ((k : Int) < (R.length : Int)) = false := by simpa using hkl
        have t4 : decide (k < R.length) = false := by simpa using hkl
        have HFROM := hide2 hfrom
        clear hstop hfrom hfr2
        go_wp2_with (first
          | (at_builtin; refine Hid.out ?_)
          | go_in)
        refine hide2 ?_
        refine wpList_append_own _ rfl _ _ 63 rfl w1.heap.size 101 i0 (.agg #[.string .empty, .int .i64 0]) 2 24 Try.underlying63 hi hz0 hz1 hz2 rfl (by decide) u8 _ _ rfl (World.ownsRow.alloc HO.out _) ⟨wr.heap.size, 0, none⟩ 1 1 [.string s, .int .i64 at0] rfl rfl (cell_two_new _ _ _ _) (by intro u hu; simp at hu; rcases hu with rfl | rfl <;> rfl) (by unfold maxLen; omega) (by omega) (by simp; omega) ?_
        intro v' w2 hown' hgrow _
        have hB2 : Below w1.heap.size w1 w2 := (hB.alloc hsz (.cells #[.string s, .int .i64 at0] 101)).trans ((Below.refl _ _).grown hgrow (by simp; omega) fun k hk => (World.ownsRow.lt HO.out k hk).1)
        have ho2 : Nr w2 w1.heap.size v' (R.take k ++ [(s, at0)]) := by
          unfold Nr
          rw [nc_append, List.length_append]
          exact hown'
        have hs2 := hB2.size
        have HO2 := hide2 ho2
        have hdl : (nc (R.drop k)).length = (R.length - k) * 2 := by rw [nc_len, List.length_drop]
        clear hown' hgrow HO ho2
        go_frame
        rcases HFROM.out with ⟨hv, hR, hsl⟩ | ⟨ag, ao2, c, hadl, hsl, hcells⟩
        · have HRn := hide2 hR
          clear HFROM hR hv
          go_wp2_with (first
            | (at_builtin; refine Hid.out ?_)
            | go_in)
          refine hide2 ?_
          refine wpList_append_own_none rfl _ _ 63 rfl w1.heap.size 101 i0 2 Try.underlying63 hi v' _ _ rfl HO2.out rfl ?_
          have hfin : nwith l s at0 = R.take k ++ [(s, at0)] := by rw [HFIN.out, HRn.out]; simp
          have HF := hide2 hfin
          have HBB : Hid (Below w.heap.size w w2) := hide2 (hB1.trans (hB2.mono hs1))
          clear hsl hfin HFIN
          go_frame
          go_wp2
          go_ret
          exact ⟨_, rfl, by rw [HF.out]; exact Go.Joins.ownsRow_le HO2.out hs1, HBB.out⟩
        · have hcells2 : ∀ j x, (nc (R.drop k))[j]? = some x → w2.cell? ((⟨ag, ao2, none⟩ : Addr).add j) = some x := fun j x hx => by
            rw [addr_add]
            exact (hB2.cell (p := ⟨ag, ao2 + j, none⟩) hadl).trans (hcells j x hx)
          have HC2 := hide2 hcells2
          clear HFROM hcells hcells2
          go_wp2_with (first
            | (at_builtin; refine Hid.out ?_)
            | go_in)
          refine hide2 ?_
          refine wpList_append_own _ rfl _ _ 63 rfl w1.heap.size 101 i0 (.agg #[.string .empty, .int .i64 0]) 2 24 Try.underlying63 hi hz0 hz1 hz2 rfl (by decide) v' _ _ rfl HO2.out ⟨ag, ao2, none⟩ (R.length - k) c (nc (R.drop k)) rfl hdl HC2.out (fun u hu => nc_one _ u hu) (by simp; unfold maxLen; omega) (by simp; omega) hs2 ?_
          intro v'' w3 hown3 hgrow3 _
          have hB3 : Below w1.heap.size w1 w3 := hB2.trans ((Below.refl _ _).grown hgrow3 hs2 fun k hk => (World.ownsRow.lt HO2.out k hk).1)
          have ho3 : Nr w3 w.heap.size v'' (nwith l s at0) := by
            rw [HFIN.out]
            refine Go.Joins.ownsRow_le (base := w1.heap.size) ?_ hs1
            have e9 : (R.take k ++ [(s, at0)] ++ R.drop k).length = (R.take k ++ [(s, at0)]).length + (R.length - k) := by rw [List.length_append, List.length_drop]
            rw [nc_append (R.take k ++ [(s, at0)]), e9]
            exact hown3
          have HO3 := hide2 ho3
          have HBB : Hid (Below w.heap.size w w3) := hide2 (hB1.trans (hB3.mono hs1))
          clear hsl hown3 hgrow3 ho3 HC2 HO2 HFIN
          go_frame
          go_wp2
          go_ret
          exact ⟨_, rfl, HO3.out, HBB.out⟩
end Go.Proofs.Ytolaagbdnchhiaa
