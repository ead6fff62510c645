/-
  Layer 15: how many stay: Keep, the program's and the document's.
-/
import Derived.Test.YtfhcphgjaobnoaaDoorVs1
set_option linter.unusedVariables false
set_option linter.unusedSimpArgs false
namespace Go.Proofs.YtfhcphgjaobnoaaDoor
open Go.RowKit Go.Maps

set_option maxRecDepth 100000 in
set_option maxHeartbeats 1000000 in
theorem skeep_any {w : World} {mark : Int} {ao bo : Option Addr} {la ca lb cb : Nat} {bs es : List Int} (hs : Seq 1 uh w ao la ca bs) (ht : Seq 1 uh w bo lb cb es) (hb0 : ∀ x ∈ bs, U64 x) (he0 : ∀ x ∈ es, U64 x) :
    Calls Tryd.prog 11 #[.slice ao la ca, .slice bo lb cb, .int .i64 mark] w fun e w' => e = .returned (.int .i64 (kpz mark bs es : Nat)) ∧ Below w.heap.size w w' := by
  have l1 := hs.1
  have l2 := hs.2.1
  have l3 := hs.2.2.1
  have t1 := ht.1
  have t2 := ht.2.1
  have t3 := ht.2.2.1
  unfold maxLen at l3 t3
  by_cases hq : lb < la
  · have d1 : (lb : Int) < (la : Int) := by omega
    have d2 : decide ((lb : Int) < (la : Int)) = true := by simp; omega
    have hnl : lb ≤ la ∧ lb ≤ lb := by omega
    have hs2 : Seq 1 uh w ao lb ca (bs.take lb) := hs.upto hnl.1
    have hbt : ∀ x ∈ bs.take lb, 0 ≤ x := fun x hx => (hb0 x (List.mem_of_mem_take hx)).1
    have hB : Below w.heap.size w (w.alloc (.cells #[.int .i64 mark] 2)) := (Below.refl _ w).alloc (Nat.le_refl _) _
    have hz : (w.alloc (.cells #[.int .i64 mark] 2)).cell? ⟨w.heap.size, 0, none⟩ = some (.int .i64 mark) := hcell_new w _ _ 0 _ rfl
    have HZ := hide2 hz
    have HI := hide2 (indexFunc_any (mark := mark) (hs2.keep hB) hbt (by simp) hz)
    have HB := hide2 hB
    have HL : Hid (lb = min bs.length es.length) := hide2 (by omega)
    have HTK : Hid (bs.take lb = bs.take es.length) := hide2 (by
      rw [t1])
    cases hf : fc mark (bs.take lb) with
    | none =>
      have e1 : fcV mark (bs.take lb) = -1 := by unfold fcV; rw [hf]
      rw [e1] at HI
      have hk : kpz mark bs es = lb := by rw [kpz_none (by rw [← HTK.out]; exact fc_none.1 hf), HL.out]
      rw [hk]
      clear hs ht hs2 hf e1 hk hb0 he0 hbt hB hz HZ HTK HL
      go_enter Tryd.func11, Tryd.ntmps11
      go_wp2_with fail
      refine HI.out.mono ?_
      rintro e w1 ⟨rfl, q1⟩
      subst q1
      clear HI
      go_wp2
      go_ret
      exact ⟨rfl, HB.out⟩
    | some k =>
      have e1 : fcV mark (bs.take lb) = (k : Int) := by unfold fcV; rw [hf]
      rw [e1] at HI
      obtain ⟨b, f1, f2, f3⟩ := fc_inv hf
      have hkn : k < lb := by
        rcases Nat.lt_or_ge k lb with q | q
        · exact q
        · rw [List.getElem?_eq_none (by simp; omega)] at f1; cases f1
      have f1' : bs[k]? = some b := by rw [List.getElem?_take, if_pos hkn] at f1; exact f1
      rw [List.take_take, show min k lb = k by omega] at f3
      obtain ⟨x, hx⟩ := some_at ht.1 (i := k) (by omega)
      have hk := kpz_some f1' hx f2 f3
      obtain ⟨eb, eoff, rfl, hel, hcell⟩ := (ht.keep hB).2.2.2 (by omega)
      have q0 : (w.alloc (.cells #[.int .i64 mark] 2)).cell? ⟨eb, eoff + k, none⟩ = some (.int .u64 x) := by have := hcell k x hx 0 _ rfl; simpa using this
      have hx0 := (he0 x (List.mem_of_getElem? hx)).1
      have hh : ∀ w2, Calls Tryd.prog 33 #[.int .u64 x, .int .i64 mark] w2 fun e w' => e = .returned (.bool (come x mark)) ∧ w' = w2 := fun w2 => hasCome_any x mark w2 hx0
      have HQ := hide2 q0
      clear hs ht hs2 hf e1 hb0 he0 hbt hB HTK HL hcell f1 f1' f2 f3 hx hz q0
      cases hc : come x mark with
      | true =>
        rw [hc] at hk hh
        simp only [if_true] at hk
        rw [hk]
        clear hk hc
        go_enter Tryd.func11, Tryd.ntmps11
        go_wp2_with fail
        refine HI.out.mono ?_
        rintro e w1 ⟨rfl, q1⟩
        have z1 : w1.cell? ⟨w.heap.size, 0, none⟩ = some (.int .i64 mark) := by rw [q1]; exact HZ.out
        have x1 : w1.cell? ⟨eb, eoff + k, none⟩ = some (.int .u64 x) := by rw [q1]; exact HQ.out
        have HB1 : Hid (Below w.heap.size w w1) := hide2 (by rw [q1]; exact HB.out)
        clear HI q1 HB HZ HQ
        go_wp2
        go_quiet ((go_at_call 33; exact Calls.quiet_of_same (hh _)))
        go_wp2
        go_ret
        exact ⟨rfl, bdrew HB1.out _⟩
      | false =>
        rw [hc] at hk hh
        simp only [if_false, Bool.false_eq_true] at hk
        rw [hk]
        clear hk hc
        go_enter Tryd.func11, Tryd.ntmps11
        go_wp2_with fail
        refine HI.out.mono ?_
        rintro e w1 ⟨rfl, q1⟩
        have z1 : w1.cell? ⟨w.heap.size, 0, none⟩ = some (.int .i64 mark) := by rw [q1]; exact HZ.out
        have x1 : w1.cell? ⟨eb, eoff + k, none⟩ = some (.int .u64 x) := by rw [q1]; exact HQ.out
        have HB1 : Hid (Below w.heap.size w w1) := hide2 (by rw [q1]; exact HB.out)
        clear HI q1 HB HZ HQ
        go_wp2
        go_quiet ((go_at_call 33; exact Calls.quiet_of_same (hh _)))
        go_wp2
        go_ret
        exact ⟨by go_num, bdrew HB1.out _⟩

  · have d1 : ¬ (lb : Int) < (la : Int) := by omega
    have d2 : decide ((lb : Int) < (la : Int)) = false := by simp; omega
    have hnl : la ≤ la ∧ la ≤ lb := by omega
    have hs2 : Seq 1 uh w ao la ca (bs.take la) := hs.upto hnl.1
    have hbt : ∀ x ∈ bs.take la, 0 ≤ x := fun x hx => (hb0 x (List.mem_of_mem_take hx)).1
    have hB : Below w.heap.size w (w.alloc (.cells #[.int .i64 mark] 2)) := (Below.refl _ w).alloc (Nat.le_refl _) _
    have hz : (w.alloc (.cells #[.int .i64 mark] 2)).cell? ⟨w.heap.size, 0, none⟩ = some (.int .i64 mark) := hcell_new w _ _ 0 _ rfl
    have HZ := hide2 hz
    have HI := hide2 (indexFunc_any (mark := mark) (hs2.keep hB) hbt (by simp) hz)
    have HB := hide2 hB
    have HL : Hid (la = min bs.length es.length) := hide2 (by omega)
    have HTK : Hid (bs.take la = bs.take es.length) := hide2 (by
      rw [t1]
      rw [take_all l1, List.take_of_length_le (by omega)])
    cases hf : fc mark (bs.take la) with
    | none =>
      have e1 : fcV mark (bs.take la) = -1 := by unfold fcV; rw [hf]
      rw [e1] at HI
      have hk : kpz mark bs es = la := by rw [kpz_none (by rw [← HTK.out]; exact fc_none.1 hf), HL.out]
      rw [hk]
      clear hs ht hs2 hf e1 hk hb0 he0 hbt hB hz HZ HTK HL
      go_enter Tryd.func11, Tryd.ntmps11
      go_wp2_with fail
      refine HI.out.mono ?_
      rintro e w1 ⟨rfl, q1⟩
      subst q1
      clear HI
      go_wp2
      go_ret
      exact ⟨rfl, HB.out⟩
    | some k =>
      have e1 : fcV mark (bs.take la) = (k : Int) := by unfold fcV; rw [hf]
      rw [e1] at HI
      obtain ⟨b, f1, f2, f3⟩ := fc_inv hf
      have hkn : k < la := by
        rcases Nat.lt_or_ge k la with q | q
        · exact q
        · rw [List.getElem?_eq_none (by simp; omega)] at f1; cases f1
      have f1' : bs[k]? = some b := by rw [List.getElem?_take, if_pos hkn] at f1; exact f1
      rw [List.take_take, show min k la = k by omega] at f3
      obtain ⟨x, hx⟩ := some_at ht.1 (i := k) (by omega)
      have hk := kpz_some f1' hx f2 f3
      obtain ⟨eb, eoff, rfl, hel, hcell⟩ := (ht.keep hB).2.2.2 (by omega)
      have q0 : (w.alloc (.cells #[.int .i64 mark] 2)).cell? ⟨eb, eoff + k, none⟩ = some (.int .u64 x) := by have := hcell k x hx 0 _ rfl; simpa using this
      have hx0 := (he0 x (List.mem_of_getElem? hx)).1
      have hh : ∀ w2, Calls Tryd.prog 33 #[.int .u64 x, .int .i64 mark] w2 fun e w' => e = .returned (.bool (come x mark)) ∧ w' = w2 := fun w2 => hasCome_any x mark w2 hx0
      have HQ := hide2 q0
      clear hs ht hs2 hf e1 hb0 he0 hbt hB HTK HL hcell f1 f1' f2 f3 hx hz q0
      cases hc : come x mark with
      | true =>
        rw [hc] at hk hh
        simp only [if_true] at hk
        rw [hk]
        clear hk hc
        go_enter Tryd.func11, Tryd.ntmps11
        go_wp2_with fail
        refine HI.out.mono ?_
        rintro e w1 ⟨rfl, q1⟩
        have z1 : w1.cell? ⟨w.heap.size, 0, none⟩ = some (.int .i64 mark) := by rw [q1]; exact HZ.out
        have x1 : w1.cell? ⟨eb, eoff + k, none⟩ = some (.int .u64 x) := by rw [q1]; exact HQ.out
        have HB1 : Hid (Below w.heap.size w w1) := hide2 (by rw [q1]; exact HB.out)
        clear HI q1 HB HZ HQ
        go_wp2
        go_quiet ((go_at_call 33; exact Calls.quiet_of_same (hh _)))
        go_wp2
        go_ret
        exact ⟨rfl, bdrew HB1.out _⟩
      | false =>
        rw [hc] at hk hh
        simp only [if_false, Bool.false_eq_true] at hk
        rw [hk]
        clear hk hc
        go_enter Tryd.func11, Tryd.ntmps11
        go_wp2_with fail
        refine HI.out.mono ?_
        rintro e w1 ⟨rfl, q1⟩
        have z1 : w1.cell? ⟨w.heap.size, 0, none⟩ = some (.int .i64 mark) := by rw [q1]; exact HZ.out
        have x1 : w1.cell? ⟨eb, eoff + k, none⟩ = some (.int .u64 x) := by rw [q1]; exact HQ.out
        have HB1 : Hid (Below w.heap.size w w1) := hide2 (by rw [q1]; exact HB.out)
        clear HI q1 HB HZ HQ
        go_wp2
        go_quiet ((go_at_call 33; exact Calls.quiet_of_same (hh _)))
        go_wp2
        go_ret
        exact ⟨by go_num, bdrew HB1.out _⟩

set_option maxRecDepth 100000 in
set_option maxHeartbeats 2000000 in
theorem rkeep_any {w : World} {mark : Int} {ao bo : Option Addr} {la ca lb cb : Nat} {bs es : List Int} (hs : Seq 1 uh w ao la ca bs) (ht : Seq 1 uh w bo lb cb es) (hb0 : ∀ x ∈ bs, U64 x) (he0 : ∀ x ∈ es, U64 x) :
    Calls Tryd.prog 13 #[.slice ao la ca, .slice bo lb cb, .int .i64 mark] w fun e w' => e = .returned (.int .i64 (kpz mark bs es : Nat)) ∧ w' = w := by
  have l1 := hs.1
  have l2 := hs.2.1
  have l3 := hs.2.2.1
  have t1 := ht.1
  have t2 := ht.2.1
  have t3 := ht.2.2.1
  unfold maxLen at l3 t3
  by_cases hq : lb < la
  · have d1 : (lb : Int) < (la : Int) := by omega
    have d2 : decide ((lb : Int) < (la : Int)) = true := by simp; omega
    have hnl : lb ≤ la ∧ lb ≤ lb := by omega
    have HL : Hid (lb = min bs.length es.length) := hide2 (by omega)
    have HTK : Hid (bs.take lb = bs.take es.length) := hide2 (by
      rw [t1])
    go_enter Tryd.func13, Tryd.ntmps13
    go_wp2
    go_loop [8] (fun i => ∃ k : Nat, k ≤ lb ∧ i = .int .i64 k ∧ Hid (∀ x ∈ bs.take k, come x mark = false)) (fun i => lb - (intOf i).toNat)
    case atStart => exact ⟨0, by omega, rfl, hide2 (by simp)⟩
    case round =>
      obtain ⟨k, hk, rfl, hno⟩ := hrel
      by_cases hkl : k < lb
      · obtain ⟨b, off, rfl, hbl, hcell⟩ := hs.2.2.2 (by omega)
        obtain ⟨c, off2, rfl, hcl, hcell2⟩ := ht.2.2.2 (by omega)
        obtain ⟨o, ho⟩ := some_at hs.1 (i := k) (by omega)
        obtain ⟨x, hx⟩ := some_at ht.1 (i := k) (by omega)
        have q0 : w.cell? ⟨b, off + k, none⟩ = some (.int .u64 o) := by have := hcell k o ho 0 _ rfl; simpa using this
        have q1 : w.cell? ⟨c, off2 + k, none⟩ = some (.int .u64 x) := by have := hcell2 k x hx 0 _ rfl; simpa using this
        have HE := hide2 (take_snoc ho)
        have o0 := hb0 o (List.mem_of_getElem? ho)
        have x0 := he0 x (List.mem_of_getElem? hx)
        have HP1 := hide2 (rpast15_any o mark w o0.1 o0.2)
        have HP2 := hide2 (rpast15_any x mark w x0.1 x0.2)
        have HO := hide2 ho
        have HX := hide2 hx
        have hkl2 : (k : Int) < (lb : Int) := by omega
        clear hcell hcell2 ho hx o0 x0
        cases co : come o mark with
        | true =>
          rw [co] at HP1
          cases cx : come x mark with
          | true =>
            rw [cx] at HP2
            have hk : kpz mark bs es = k := by rw [kpz_some HO.out HX.out co hno.out, if_pos cx]
            have HK := hide2 hk
            clear hk
            go_wp2_with fail
            refine HP1.out.mono ?_
            rintro e w1 ⟨rfl, e1⟩
            subst e1
            clear HP1
            go_wp2_with fail
            refine HP2.out.mono ?_
            rintro e w1 ⟨rfl, e1⟩
            subst e1
            clear HP2
            go_wp2
            go_ret
            exact ⟨by rw [HK.out]; rfl, rfl⟩
          | false =>
            rw [cx] at HP2
            have hk : kpz mark bs es = k + 1 := by rw [kpz_some HO.out HX.out co hno.out, if_neg (by rw [cx]; simp)]
            have HK := hide2 hk
            clear hk
            go_wp2_with fail
            refine HP1.out.mono ?_
            rintro e w1 ⟨rfl, e1⟩
            subst e1
            clear HP1
            go_wp2_with fail
            refine HP2.out.mono ?_
            rintro e w1 ⟨rfl, e1⟩
            subst e1
            clear HP2
            go_wp2
            go_ret
            exact ⟨by rw [HK.out]; go_num, rfl⟩
        | false =>
          rw [co] at HP1
          have HC := hide2 co
          go_wp2_with fail
          refine HP1.out.mono ?_
          rintro e w1 ⟨rfl, e1⟩
          subst e1
          clear HP1
          go_wp2_with fail
          refine HP2.out.mono ?_
          rintro e w1 ⟨rfl, e1⟩
          subst e1
          clear HP2
          go_wp2
          go_round
          case rel => exact ⟨k + 1, by omega, by go_num, hide2 (by rw [HE.out]; intro y hy; rcases List.mem_append.1 hy with e | e; exact hno.out y e; simp at e; rw [e]; exact HC.out)⟩
          case measure => simp [intOf]; omega
      · obtain rfl : k = lb := by omega
        have hk : kpz mark bs es = k := by rw [kpz_none (by rw [← HTK.out]; exact hno.out)]; exact HL.out.symm
        have HK := hide2 hk
        clear hk
        go_wp2
        go_ret
        exact ⟨by rw [HK.out]; rfl, rfl⟩
  · have d1 : ¬ (lb : Int) < (la : Int) := by omega
    have d2 : decide ((lb : Int) < (la : Int)) = false := by simp; omega
    have hnl : la ≤ la ∧ la ≤ lb := by omega
    have HL : Hid (la = min bs.length es.length) := hide2 (by omega)
    have HTK : Hid (bs.take la = bs.take es.length) := hide2 (by
      rw [t1, take_all l1, List.take_of_length_le (by omega)])
    go_enter Tryd.func13, Tryd.ntmps13
    go_wp2
    go_loop [8] (fun i => ∃ k : Nat, k ≤ la ∧ i = .int .i64 k ∧ Hid (∀ x ∈ bs.take k, come x mark = false)) (fun i => la - (intOf i).toNat)
    case atStart => exact ⟨0, by omega, rfl, hide2 (by simp)⟩
    case round =>
      obtain ⟨k, hk, rfl, hno⟩ := hrel
      by_cases hkl : k < la
      · obtain ⟨b, off, rfl, hbl, hcell⟩ := hs.2.2.2 (by omega)
        obtain ⟨c, off2, rfl, hcl, hcell2⟩ := ht.2.2.2 (by omega)
        obtain ⟨o, ho⟩ := some_at hs.1 (i := k) (by omega)
        obtain ⟨x, hx⟩ := some_at ht.1 (i := k) (by omega)
        have q0 : w.cell? ⟨b, off + k, none⟩ = some (.int .u64 o) := by have := hcell k o ho 0 _ rfl; simpa using this
        have q1 : w.cell? ⟨c, off2 + k, none⟩ = some (.int .u64 x) := by have := hcell2 k x hx 0 _ rfl; simpa using this
        have HE := hide2 (take_snoc ho)
        have o0 := hb0 o (List.mem_of_getElem? ho)
        have x0 := he0 x (List.mem_of_getElem? hx)
        have HP1 := hide2 (rpast15_any o mark w o0.1 o0.2)
        have HP2 := hide2 (rpast15_any x mark w x0.1 x0.2)
        have HO := hide2 ho
        have HX := hide2 hx
        have hkl2 : (k : Int) < (la : Int) := by omega
        clear hcell hcell2 ho hx o0 x0
        cases co : come o mark with
        | true =>
          rw [co] at HP1
          cases cx : come x mark with
          | true =>
            rw [cx] at HP2
            have hk : kpz mark bs es = k := by rw [kpz_some HO.out HX.out co hno.out, if_pos cx]
            have HK := hide2 hk
            clear hk
            go_wp2_with fail
            refine HP1.out.mono ?_
            rintro e w1 ⟨rfl, e1⟩
            subst e1
            clear HP1
            go_wp2_with fail
            refine HP2.out.mono ?_
            rintro e w1 ⟨rfl, e1⟩
            subst e1
            clear HP2
            go_wp2
            go_ret
            exact ⟨by rw [HK.out]; rfl, rfl⟩
          | false =>
            rw [cx] at HP2
            have hk : kpz mark bs es = k + 1 := by rw [kpz_some HO.out HX.out co hno.out, if_neg (by rw [cx]; simp)]
            have HK := hide2 hk
            clear hk
            go_wp2_with fail
            refine HP1.out.mono ?_
            rintro e w1 ⟨rfl, e1⟩
            subst e1
            clear HP1
            go_wp2_with fail
            refine HP2.out.mono ?_
            rintro e w1 ⟨rfl, e1⟩
            subst e1
            clear HP2
            go_wp2
            go_ret
            exact ⟨by rw [HK.out]; go_num, rfl⟩
        | false =>
          rw [co] at HP1
          have HC := hide2 co
          go_wp2_with fail
          refine HP1.out.mono ?_
          rintro e w1 ⟨rfl, e1⟩
          subst e1
          clear HP1
          go_wp2_with fail
          refine HP2.out.mono ?_
          rintro e w1 ⟨rfl, e1⟩
          subst e1
          clear HP2
          go_wp2
          go_round
          case rel => exact ⟨k + 1, by omega, by go_num, hide2 (by rw [HE.out]; intro y hy; rcases List.mem_append.1 hy with e | e; exact hno.out y e; simp at e; rw [e]; exact HC.out)⟩
          case measure => simp [intOf]; omega
      · obtain rfl : k = la := by omega
        have hk : kpz mark bs es = k := by rw [kpz_none (by rw [← HTK.out]; exact hno.out)]; exact HL.out.symm
        have HK := hide2 hk
        clear hk
        go_wp2
        go_ret
        exact ⟨by rw [HK.out]; rfl, rfl⟩
end Go.Proofs.YtfhcphgjaobnoaaDoor
