/-
  Step, by stages; Ref.
-/
import Derived.Test.YtbpihkojmbfccaaDoorHa6
import Derived.Test.YtbpihkojmbfccaaDoorHa6b
import Derived.Test.YtbpihkojmbfccaaDoorHa6c
import Derived.Test.YtbpihkojmbfccaaDoorHa6d
set_option linter.unusedVariables false
set_option linter.unusedSimpArgs false
namespace Go.Proofs.YtbpihkojmbfccaaDoor
open Go.RowKit Go.Maps

section
variable {w w' : World} {K : Nat → Prop} {tb d g hb hc mb : Nat} {sv hv tv : Value} {D : DataW Value} {T : List Bool} {N : List Int} {m : Int} {F : List Nat} {s : Tb} {ob : Nat} {o : Opm}

theorem key_some {k : ByteArray} (h : 1 ≤ k.size) : k.toList.isEmpty = false := by
  rw [ByteArray.toList_eq, List.isEmpty_eq_false_iff]
  intro e
  have e2 : k.size = k.data.toList.length := by cases k; rfl
  rw [e2, e] at h
  exact absurd h (by decide)
theorem st_is (n k : Nat) : ((n : Int) == (k : Int)) = decide (n = k) := by
  by_cases h : n = k
  · subst h; simp
  · rw [decide_eq_false h, beq_eq_false_iff_ne]; omega

theorem step_nilop (w : World) : Calls Tryd.prog 25 #[.pointer none] w fun e w' => e = .returned (.bool true) ∧ w' = w := by
  go_enter Tryd.func25, Tryd.ntmps25
  go_wp2
  go_ret
  exact ⟨rfl, rfl⟩

set_option maxRecDepth 100000 in
set_option maxHeartbeats 2000000 in
theorem step_done (ho : Om w ob tv o) (hst : o.st = 3) : Calls Tryd.prog 25 #[.pointer (some ⟨ob, 0, none⟩)] w fun e w' => e = .returned (.bool true) ∧ w' = w := by
  have c6 := ho.cells.2.2.2.2.2.2.1
  rw [hst] at c6
  have c6' : w.cell? ⟨ob, 6, none⟩ = some (.int .i64 3) := c6
  clear c6 hst ho
  go_enter Tryd.func25, Tryd.ntmps25
  go_wp2
  go_ret
  exact ⟨rfl, rfl⟩

set_option maxRecDepth 100000 in
set_option maxHeartbeats 2000000 in
theorem step_none (ho : Om w ob (.pointer none) o) (hst : o.st = 0) : Calls Tryd.prog 25 #[.pointer (some ⟨ob, 0, none⟩)] w fun e w' => e = .returned (.bool true) ∧ Om w' ob (.pointer none) (o.ans 0 false 1) ∧ Fr (fun j => j = ob) w w' := by
  have c6 := ho.cells.2.2.2.2.2.2.1
  have c0 := ho.cells.1
  rw [hst] at c6
  have c6' : w.cell? ⟨ob, 6, none⟩ = some (.int .i64 0) := c6
  have HN := hide2 (isNone_nil w)
  have HA := hide2 (answer_any ho 0 false 1)
  clear c6 hst ho
  go_enter Tryd.func25, Tryd.ntmps25
  go_wp2_with fail
  refine HN.out.mono ?_
  rintro e w0 ⟨rfl, q0⟩
  subst q0
  go_wp2_with fail
  refine HA.out.mono ?_
  rintro e w1 ⟨rfl, o1, hF1⟩
  have d6 : w1.cell? ⟨ob, 6, none⟩ = some (.int .i64 3) := o1.cells.2.2.2.2.2.2.1
  have O1 := hide2 o1
  clear o1 HA
  go_wp2
  go_ret
  exact ⟨rfl, O1.out, hF1⟩

set_option maxRecDepth 100000 in
set_option maxHeartbeats 2000000 in
theorem step_bad {ao : Option Addr} {n cap : Nat} (h : Tk4 w tb d (.slice ao n cap) mb sv) (hn : 1 ≤ n) (ho : Om w ob (tp tb) o) (hst : o.st = 0) (hk : o.k = .empty) : Calls Tryd.prog 25 #[.pointer (some ⟨ob, 0, none⟩)] w fun e w' => e = .returned (.bool true) ∧ Om w' ob (tp tb) (o.ans 0 false 90) ∧ Fr (fun j => j = ob) w w' := by
  have c6 := ho.cells.2.2.2.2.2.2.1
  have c0 := ho.cells.1
  have c2 := ho.cells.2.2.1
  rw [hst] at c6
  rw [hk] at c2
  have c6' : w.cell? ⟨ob, 6, none⟩ = some (.int .i64 0) := c6
  have HN := hide2 (isNone_raw h hn)
  have HA := hide2 (answer_any ho 0 false 90)
  clear c6 hst ho h hk
  go_enter Tryd.func25, Tryd.ntmps25
  go_wp2_with fail
  refine HN.out.mono ?_
  rintro e w0 ⟨rfl, q0⟩
  subst q0
  go_wp2_with fail
  refine HA.out.mono ?_
  rintro e w1 ⟨rfl, o1, hF1⟩
  have d6 : w1.cell? ⟨ob, 6, none⟩ = some (.int .i64 3) := o1.cells.2.2.2.2.2.2.1
  have O1 := hide2 o1
  clear o1 HA
  go_wp2
  go_ret
  exact ⟨rfl, O1.out, hF1⟩

set_option maxRecDepth 100000 in
set_option maxHeartbeats 2000000 in
/-- Step, of an operation that looks. -/
theorem step_look {R : World → Opm → Prop} (h : Hm w K tb d g hb hc mb sv D T N m F s) (hn : 1 ≤ s.hd.length) (ho : Om w ob (tp tb) o) (hst : o.st = 0) (hk : 1 ≤ o.k.size)
    (hl : Calls Tryd.prog 35 #[.pointer (some ⟨ob, 0, none⟩)] w fun e w' => e = .returned (.tuple #[]) ∧ ∃ o', Om w' ob (tp tb) o' ∧ R w' o') :
    Calls Tryd.prog 25 #[.pointer (some ⟨ob, 0, none⟩)] w fun e w' => ∃ o', e = .returned (.bool (decide (o'.st = 3))) ∧ Om w' ob (tp tb) o' ∧ R w' o' := by
  have c6 := ho.cells.2.2.2.2.2.2.1
  have c0 := ho.cells.1
  have c2 := ho.cells.2.2.1
  rw [hst] at c6
  have hk2 := key_some hk
  have c6' : w.cell? ⟨ob, 6, none⟩ = some (.int .i64 0) := c6
  have HN := hide2 (h.isNone hn)
  have HL := hide2 hl
  clear c6 hst ho h hl
  go_enter Tryd.func25, Tryd.ntmps25
  go_wp2_with fail
  refine HN.out.mono ?_
  rintro e w0 ⟨rfl, q0⟩
  subst q0
  go_wp2_with fail
  refine HL.out.mono ?_
  rintro e w1 ⟨rfl, o1, hO1, hR⟩
  have d6 := hO1.cells.2.2.2.2.2.2.1
  have O1 := hide2 hO1
  have ES := hide2 (st_is o1.st 3)
  have HR := hide2 hR
  clear hO1 HL hR
  go_wp2
  go_ret
  exact ⟨o1, ret_bool ES.out, O1.out, HR.out⟩

set_option maxRecDepth 100000 in
set_option maxHeartbeats 2000000 in
/-- Step, of an operation that puts. -/
theorem step_put {R : World → Opm → Prop} (h : Hm w K tb d g hb hc mb sv D T N m F s) (hn : 1 ≤ s.hd.length) (ho : Om w ob (tp tb) o) (hst : o.st = 1) (hk : 1 ≤ o.k.size)
    (hl : Calls Tryd.prog 36 #[.pointer (some ⟨ob, 0, none⟩)] w fun e w' => e = .returned (.tuple #[]) ∧ ∃ o', Om w' ob (tp tb) o' ∧ R w' o') :
    Calls Tryd.prog 25 #[.pointer (some ⟨ob, 0, none⟩)] w fun e w' => ∃ o', e = .returned (.bool (decide (o'.st = 3))) ∧ Om w' ob (tp tb) o' ∧ R w' o' := by
  have c6 := ho.cells.2.2.2.2.2.2.1
  have c0 := ho.cells.1
  have c2 := ho.cells.2.2.1
  rw [hst] at c6
  have hk2 := key_some hk
  have c6' : w.cell? ⟨ob, 6, none⟩ = some (.int .i64 1) := c6
  have HN := hide2 (h.isNone hn)
  have HL := hide2 hl
  clear c6 hst ho h hl
  go_enter Tryd.func25, Tryd.ntmps25
  go_wp2_with fail
  refine HN.out.mono ?_
  rintro e w0 ⟨rfl, q0⟩
  subst q0
  go_wp2_with fail
  refine HL.out.mono ?_
  rintro e w1 ⟨rfl, o1, hO1, hR⟩
  have d6 := hO1.cells.2.2.2.2.2.2.1
  have O1 := hide2 hO1
  have ES := hide2 (st_is o1.st 3)
  have HR := hide2 hR
  clear hO1 HL hR
  go_wp2
  go_ret
  exact ⟨o1, ret_bool ES.out, O1.out, HR.out⟩

set_option maxRecDepth 100000 in
set_option maxHeartbeats 2000000 in
/-- Step, of an operation that gives its cell back. -/
theorem step_give (h : Hm w K tb d g hb hc mb sv D T N m F s) (hn : 1 ≤ s.hd.length) (ho : Om w ob (tp tb) o) (hob : ¬ K ob) (hst : o.st = 2) (hk : 1 ≤ o.k.size) {c : Nat} (hcell : o.cell = some c) (hc1 : c ∈ s.sp) (hct : T.getD c false = true) (hl2 : s.sp.length ≤ 1000000) :
    Calls Tryd.prog 25 #[.pointer (some ⟨ob, 0, none⟩)] w fun e w' => e = .returned (.bool true) ∧ Om w' ob (tp tb) { o with st := 3 } ∧ (∃ sv', Hm w' K tb d g hb hc mb sv' D (T.set c false) N m (flip F c) (s.given c)) ∧ Fr (fun j => K j ∨ j = ob) w w' := by
  have c6 := ho.cells.2.2.2.2.2.2.1
  have c0 := ho.cells.1
  have c2 := ho.cells.2.2.1
  have c8 := ho.cells.2.2.2.2.2.2.2.2.1
  rw [hcell] at c8
  have c8' : w.cell? ⟨ob, 8, none⟩ = some (.int .i64 (c : Int)) := c8
  rw [hst] at c6
  have hk2 := key_some hk
  have c6' : w.cell? ⟨ob, 6, none⟩ = some (.int .i64 2) := c6
  have HN := hide2 (h.isNone hn)
  have HO := hide2 ho
  have H := hide2 h
  have hgive : ∀ q, Calls Tryd.prog 37 #[.pointer (some ⟨tb, 0, none⟩), .int .i64 (c : Int)] (w.drewN q) fun e w' => e = .returned (.tuple #[]) ∧ ∃ sv', Hm w' K tb d g hb hc mb sv' D (T.set c false) N m (flip F c) (s.given c) ∧ Fr K (w.drewN q) w' := fun q =>
    (h.keep ((Fr.refl (fun _ => False) w).drewN q) (fun _ _ e => e) (fun e => e)).give hc1 hct hl2
  have HG := hide2 hgive
  have hlt := ho.lt
  clear c6 c8 hst ho h hgive hcell
  go_enter Tryd.func25, Tryd.ntmps25
  go_wp2_with fail
  refine HN.out.mono ?_
  rintro e w0 ⟨rfl, q0⟩
  subst q0
  go_wp2
  go_region_with (go_at_call 37; refine (HG.out 1).mono ?_; rintro e w1 ⟨rfl, sv', h1, hF1⟩)
  all_goals
    have hF1K : Fr K w0 w1 := ((Fr.refl K w0).drewN 1).trans hF1 (fun j e => .inl e)
    have o1 := HO.out.fr hF1K hob
    have f6 := o1.free 6
    have d6 := o1.cells.2.2.2.2.2.2.1
    have O1 := hide2 o1
    have H1 := hide2 h1
    have hlt1 := o1.lt
    clear o1 h1
    go_wp2
    go_ret
    exact ⟨rfl, O1.out.setSt 3, ⟨sv', H1.out.keep (Fr.setCell (p := ⟨ob, 6, none⟩) (Fr.refl (fun j => j = ob) w1) (.inl rfl) _) (fun j hj e => hob (e ▸ hj)) (fun e => HO.out.zero H.out.tab e.symm)⟩, Fr.setCell (p := ⟨ob, 6, none⟩) (hF1K.mono (G := fun j => K j ∨ j = ob) (fun _ _ e => .inl e)) (.inl (.inr rfl)) _⟩

/-! ### Ref -/
theorem ref_nil (w : World) : Calls Tryd.prog 12 #[.pointer none] w fun e w' => e = .returned (.tuple #[.int .i64 0, .bool false, .int .i64 1]) ∧ w' = w := by
  go_enter Tryd.func12, Tryd.ntmps12
  go_wp2
  refine bodyPost_ret (results_tmp3 rfl _ _ _) rfl ?_
  exact ⟨rfl, rfl⟩
set_option maxRecDepth 100000 in
set_option maxHeartbeats 2000000 in
theorem ref_early (ho : Om w ob tv o) (hst : o.st ≠ 3) : Calls Tryd.prog 12 #[.pointer (some ⟨ob, 0, none⟩)] w fun e w' => e = .returned (.tuple #[.int .i64 0, .bool false, .int .i64 2]) ∧ w' = w := by
  have c6 := ho.cells.2.2.2.2.2.2.1
  have e1 : ((o.st : Int) == 3) = false := by rw [beq_eq_false_iff_ne]; omega
  have e2 : ¬ (o.st : Int) = 3 := by omega
  have e3 : ¬ o.st = 3 := hst
  have e4 : ((o.st : Int) != 3) = true := by simp; omega
  clear ho
  go_enter Tryd.func12, Tryd.ntmps12
  go_wp2
  refine bodyPost_ret (results_tmp3 rfl _ _ _) rfl ?_
  exact ⟨rfl, rfl⟩
set_option maxRecDepth 100000 in
set_option maxHeartbeats 2000000 in
theorem ref_any (ho : Om w ob tv o) (hst : o.st = 3) : Calls Tryd.prog 12 #[.pointer (some ⟨ob, 0, none⟩)] w fun e w' => e = .returned (.tuple #[.int .i64 o.r, .bool o.had, .int .i64 o.code]) ∧ ∃ q, w' = w.drewN q := by
  obtain ⟨c0, c1, c2, c3, c4, c5, c6, c7, c8, c9⟩ := ho.cells
  rw [hst] at c6
  have c6' : w.cell? ⟨ob, 6, none⟩ = some (.int .i64 3) := c6
  clear ho c6 hst
  go_enter Tryd.func12, Tryd.ntmps12
  go_wp2
  go_quiet (fail)
  go_wp2
  refine bodyPost_ret (results_tmp3 rfl _ _ _) rfl ?_
  exact ⟨rfl, _, rfl⟩
end
end Go.Proofs.YtbpihkojmbfccaaDoor
