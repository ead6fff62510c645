/-
  Lg1: A graph that is new, and one that waits: NewGraph, (*Graph).Wait.
-/
import Derived.Test.YtafbchjmjfpilaaDoorLd2
import Derived.Test.YtafbchjmjfpilaaDoorLf5
set_option linter.unusedVariables false
set_option linter.unusedSimpArgs false
namespace Go.Proofs.YtafbchjmjfpilaaDoor
open Go.RowKit Go.Shelf
attribute [local go_sem] Oper.semAt_some

section
set_option maxHeartbeats 4000000
set_option maxRecDepth 100000
variable {w : World} {d : Nat} {Wt : List Nat}
theorem u16s_set (Wt : List Nat) (i x : Nat) : (u16s Wt).setIfInBounds i (.int .u16 (x : Int)) = u16s (Wt.set i x) := by
  unfold u16s
  rw [List.setIfInBounds_toArray, ← List.map_set]
theorem Gm.set (h : Gm w d Wt) {i x : Nat} (hx : x < 65536) : Gm (w.setCell ⟨d, i, none⟩ (.int .u16 (x : Int))) d (Wt.set i x) := by
  refine ⟨by rw [List.length_set]; exact h.len, fun k => ?_, ?_⟩
  · by_cases e : k = i
    · subst e
      by_cases hl : k < Wt.length
      · simpa [List.getD, List.getElem?_set, hl] using hx
      · simp [List.getD, List.getElem?_set, hl]
    · have := h.sm k
      have e2 : ¬ i = k := fun q => e q.symm
      simpa [List.getD, List.getElem?_set, e2] using this
  · rw [← u16s_set]
    exact Go.Joins.block_setCell h.blk _

theorem new_any (w : World) : Calls Tryd.prog 6 #[] w fun e w' => e = .returned (.pointer (some ⟨w.heap.size, 0, none⟩)) ∧ w' = w.alloc (.cells (u16s (List.replicate 16 0)) 49) := by
  go_enter Tryd.func6, Tryd.ntmps6
  go_wp2
  go_ret
  exact ⟨rfl, rfl⟩

/-- What Wait answers and leaves. -/
def WtR (w : World) (d : Nat) (k : Int) (cs : List Int) (e : Ending) (w' : World) : Prop :=
  (isW k = true ∧ cs.all isW = true ∧ e = .returned (.int .i64 0) ∧ ∃ q, w' = (w.setCell ⟨d, k.toNat, none⟩ (.int .u16 ((wo (cm cs) (2 ^ k.toNat) : Nat) : Int))).drewN q) ∨
  ((isW k && cs.all isW) = false ∧ e = .returned (.int .i64 2) ∧ w' = w)

theorem wait_any {ao : Option Addr} {len cap : Nat} {cs : List Int} (hG : Gm w d Wt) (hT : Tab w) (h : Ints .i64 w ao len cap cs) (me : Int) :
    Calls Tryd.prog 7 #[.pointer (some ⟨d, 0, none⟩), .int .i64 me, .slice ao len cap] w fun e w' => WtR w d me cs e w' := by
  have HW := hide2 (fun k w => isWorker_any k w)
  have HO := hide2 (fun k hk w => only_any k hk w)
  have hle := h.2.1
  have hmx := h.2.2.1
  unfold maxLen at hmx
  have hxl := h.1
  have H := hide2 h
  have HG := hide2 hG
  have HME := hide2 (fun w => HW.out me w)
  clear h hG hT
  cases hme : isW me with
  | false =>
    rw [hme] at HME
    have RET : Hid (WtR w d me cs (.returned (.int .i64 2)) w) := hide2 (.inr ⟨by rw [hme]; rfl, rfl, rfl⟩)
    clear hme
    go_enter Tryd.func7, Tryd.ntmps7
    go_wp2_with fail
    refine (HME.out _).mono ?_
    rintro e w1 ⟨rfl, rfl⟩
    go_wp2
    go_ret
    exact RET.out
  | true =>
    rw [hme] at HME
    obtain ⟨n, rfl⟩ : ∃ n : Nat, me = (n : Int) := ⟨me.toNat, (isW_toNat hme).1.symm⟩
    have hn : n < 16 := by have := isW_iff.1 hme; omega
    have HMEW := hide2 hme
    clear hme
    go_enter Tryd.func7, Tryd.ntmps7
    go_wp2_with fail
    refine (HME.out _).mono ?_
    rintro e w1 ⟨rfl, hw1⟩
    subst hw1
    clear HME
    go_wp2_with fail
    go_loopw [7, 17] (fun m i wr => ∃ k : Nat, k ≤ len ∧ i = .int .i64 (k : Int) ∧ Hid (wr = w1) ∧ Hid ((cs.take k).all isW = true) ∧ m = .int .u16 (cm (cs.take k) : Int)) (fun _ i _ => len - (intOf i).toNat)
    case atStart => exact ⟨0, Nat.zero_le _, rfl, hide2 rfl, hide2 rfl, rfl⟩
    case round =>
      obtain ⟨k, hk, rfl, HWR, HALL, rfl⟩ := hrel
      have hwr := HWR.out
      subst hwr
      clear HWR
      by_cases hlt : k < len
      · obtain ⟨x, hx⟩ := some_at hxl hlt
        have HTK := hide2 (take_snoc hx)
        have HWX := hide2 (fun w => HW.out x w)
        obtain ⟨g, off, rfl, hg, hc⟩ := H.out.num (by omega)
        have c0 := hc k hlt
        have hgx : cs.getD k 0 = x := by simp [List.getD, hx]
        rw [hgx] at c0
        have d1 : (k : Int) < (len : Int) := by omega
        have d2 : decide ((k : Int) < (len : Int)) = true := by simpa using d1
        have HMEM := hide2 (List.mem_of_getElem? hx)
        clear hc hgx hx
        cases hxw : isW x with
        | false =>
          rw [hxw] at HWX
          have hall : cs.all isW = false := by
            rw [List.all_eq_false]
            exact ⟨x, HMEM.out, by simp [hxw]⟩
          generalize cm (cs.take k) = c1 at *
          go_wp2_with fail
          refine (HWX.out _).mono ?_
          rintro e w1 ⟨rfl, rfl⟩
          go_wp2
          go_ret
          exact .inr ⟨by rw [hall]; simp, rfl, rfl⟩
        | true =>
          rw [hxw] at HWX
          obtain ⟨n2, rfl⟩ : ∃ n : Nat, x = (n : Int) := ⟨x.toNat, (isW_toNat hxw).1.symm⟩
          have hn2 : n2 < 16 := by have := isW_iff.1 hxw; omega
          have NALL : Hid ((cs.take (k + 1)).all isW = true) := hide2 (by rw [HTK.out, List.all_append, HALL.out]; simp [hxw])
          have NCM : Hid (cm (cs.take (k + 1)) = Lk.rdd (cm (cs.take k)) n2) := hide2 (by rw [HTK.out, cm_snoc, if_pos hxw]; rfl)
          have HON := hide2 (fun w => HO.out n2 hn2 w)
          have hor := or16 (cm_lt (cs.take k)) (pow16_lt hn2)
          rw [or_bit, ← NCM.out] at hor
          clear NCM HALL HTK hxw
          generalize ec : cm (cs.take (k + 1)) = c2 at *
          have EC := hide2 ec
          clear ec
          generalize cm (cs.take k) = c1 at *
          generalize 2 ^ n2 = q2 at *
          go_wp2_with fail
          refine (HWX.out _).mono ?_
          rintro e w1 ⟨rfl, rfl⟩
          go_wp2_with fail
          refine (HON.out _).mono ?_
          rintro e w1 ⟨rfl, rfl⟩
          go_wp2_with fail
          go_roundw
          case rel => exact ⟨k + 1, by omega, by go_num, hide2 (by first | rfl | trivial), NALL, by rw [EC.out]⟩
          case measure => simp [intOf]; omega
      · have e1 : k = len := by omega
        subst e1
        have ec : cs.take k = cs := List.take_of_length_le (by omega)
        rw [ec] at HALL ⊢
        have d2 : decide ((k : Int) < (k : Int)) = false := by simp
        have HON := hide2 (fun w => HO.out n hn w)
        have hnr := andNot16 (cm_lt cs) (pow16_lt hn)
        have q4 := HG.out.cell hn
        have hdl : (n : Int) < 16 := by omega
        have f4 := Go.Joins.unfrozen_of_block HG.out.blk n
        have RET : Hid (∀ q, WtR _ d (n : Int) cs (.returned (.int .i64 0)) ((wr.setCell ⟨d, n, none⟩ (.int .u16 ((wo (cm cs) (2 ^ n) : Nat) : Int))).drewN q)) := hide2 (fun q => .inl ⟨HMEW.out, HALL.out, rfl, q, rfl⟩)
        generalize wo (cm cs) (2 ^ n) = z at *
        generalize cm cs = s at *
        generalize 2 ^ n = q2 at *
        clear H HO HW HG
        go_wp2_with fail
        go_region_with (go_at_call 14; refine (HON.out _).mono ?_; rintro e w' ⟨rfl, rfl⟩)
        all_goals
          go_wp2
          go_ret
          exact RET.out 1
end
end Go.Proofs.YtafbchjmjfpilaaDoor
