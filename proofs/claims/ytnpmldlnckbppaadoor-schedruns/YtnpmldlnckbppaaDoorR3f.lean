/-
  The document's own arena: Do, and just what it changes.
-/
import Derived.Test.YtnpmldlnckbppaaDoorR2
import Derived.Test.YtnpmldlnckbppaaDoorCOpen
set_option linter.unusedVariables false
set_option linter.unusedSimpArgs false
namespace Go.Proofs.YtnpmldlnckbppaaDoor
open Go.RowKit

/-- What is the arena's own and changes: itself, its numbers. -/
def Ow (r : Nat) (hv : Value) : Nat → Prop := fun k => k = r ∨ hv.ownBlock = some k

section
variable {w w' : World} {B r n : Nat} {R : List Bool} {H : List Int} {m : Int} {hv tv : Value}

set_option maxRecDepth 100000 in
set_option maxHeartbeats 2000000 in
theorem fDo_load (h : Rw w B r n R H m hv tv) (hB : B ≤ w.heap.size) (c : Nat) (a b : Int) (ht : tk R c = true) (hm : 0 ≤ m ∧ m < 4611686018427387904) :
    Calls Tryd.prog 25 #[.pointer (some ⟨r, 0, none⟩), opV 1 c a b] w fun e w' => e = .returned (.tuple #[.int .u64 (H.getD c 0), .int .i64 0]) ∧ Rw w' B r n R (H) (m + 1) hv tv ∧ Fr (Ow r hv) w w' := by
  have hc : c < R.length := by simpa using (tk_lt ht).2
  have h1 := h.alloc (opC 1 c a b)
  have hth := there_any h1 (c : Int)
  rw [ht] at hth
  have HT := hide2 hth
  have hrl := h.lt
  obtain ⟨c0, c1, c2, c3⟩ := h.cells
  have f3 := h.free 3
  have h2 := h.many (m + 1)
  have F2 := Fr.setCell (p := ⟨r, 3, none⟩) (Fr.refl (Ow r hv) w) (.inl (.inl rfl)) (.int .i64 (m + 1))
  obtain ⟨d0, d1, d2, d3⟩ := h2.cells
  obtain ⟨g, cap, rfl, hg, hcell⟩ := h2.hrow (by omega)
  have hgl := (h2.hr.lt g rfl).2
  have hgl2 : g < w.heap.size := by simpa using hgl
  have hrg : r ≠ g := fun e => h.nh (by rw [e]; rfl)
  obtain ⟨q0, q1⟩ := hcell c hc
  have hc2 : (c : Int) < (R.length : Int) := by omega
  have H2 := hide2 h2
  have HF2 := hide2 F2
  have HH := hide2 h
  clear hth h2 F2 hcell h1 h
  generalize hlen : R.length = len at *
  have HL := hide2 hlen
  clear hlen
  generalize hxx : H.getD c 0 = x at *
  have HX := hide2 hxx
  clear hxx
  go_enter Tryd.func25, Tryd.ntmps25
  go_wp2_with fail
  refine HT.out.mono ?_
  rintro e w1 ⟨rfl, rfl⟩
  clear HT
  go_wp2
  go_quiet (fail)
  go_wp2
  go_ret2
  exact ⟨rfl, (H2.out.alloc _).drewN _, (HF2.out.alloc _).drewN _⟩

set_option maxRecDepth 100000 in
set_option maxHeartbeats 2000000 in
theorem fDo_store (h : Rw w B r n R H m hv tv) (hB : B ≤ w.heap.size) (c : Nat) (a b : Int) (ht : tk R c = true) (hm : 0 ≤ m ∧ m < 4611686018427387904) (ha : U64 a) :
    Calls Tryd.prog 25 #[.pointer (some ⟨r, 0, none⟩), opV 2 c a b] w fun e w' => e = .returned (.tuple #[.int .u64 (0), .int .i64 0]) ∧ Rw w' B r n R (H.set c a) (m + 1) hv tv ∧ Fr (Ow r hv) w w' := by
  have hc : c < R.length := by simpa using (tk_lt ht).2
  have h1 := h.alloc (opC 2 c a b)
  have hth := there_any h1 (c : Int)
  rw [ht] at hth
  have HT := hide2 hth
  have hrl := h.lt
  obtain ⟨c0, c1, c2, c3⟩ := h.cells
  have f3 := h.free 3
  have h2 := h.many (m + 1)
  have F2 := Fr.setCell (p := ⟨r, 3, none⟩) (Fr.refl (Ow r hv) w) (.inl (.inl rfl)) (.int .i64 (m + 1))
  obtain ⟨d0, d1, d2, d3⟩ := h2.cells
  obtain ⟨g, cap, rfl, hg, hcell⟩ := h2.hrow (by omega)
  have hgl := (h2.hr.lt g rfl).2
  have hgl2 : g < w.heap.size := by simpa using hgl
  have hrg : r ≠ g := fun e => h.nh (by rw [e]; rfl)
  obtain ⟨q0, q1⟩ := hcell c hc
  have hc2 : (c : Int) < (R.length : Int) := by omega
  have H2 := hide2 h2
  have HF2 := hide2 F2
  have HH := hide2 h
  clear hth h2 F2 hcell h1 h
  generalize hlen : R.length = len at *
  have HL := hide2 hlen
  clear hlen
  generalize hxx : H.getD c 0 = x at *
  have HX := hide2 hxx
  clear hxx
  go_enter Tryd.func25, Tryd.ntmps25
  go_wp2_with fail
  refine HT.out.mono ?_
  rintro e w1 ⟨rfl, rfl⟩
  clear HT
  go_wp2
  go_quiet (fail)
  go_wp2
  go_region
  all_goals go_wp2
  all_goals go_ret2
  all_goals
    have hl := HL.out
    subst hl
  all_goals exact ⟨rfl, Rw.numb ((H2.out.alloc _).drewN _) c _ ha, Fr.setCell (p := ⟨g, c, none⟩) ((HF2.out.alloc _).drewN _) (.inl (.inr rfl)) _⟩

set_option maxRecDepth 100000 in
set_option maxHeartbeats 2000000 in
theorem fDo_casNo (h : Rw w B r n R H m hv tv) (hB : B ≤ w.heap.size) (c : Nat) (a b : Int) (ht : tk R c = true) (hm : 0 ≤ m ∧ m < 4611686018427387904) (hne : H.getD c 0 ≠ a) :
    Calls Tryd.prog 25 #[.pointer (some ⟨r, 0, none⟩), opV 3 c a b] w fun e w' => e = .returned (.tuple #[.int .u64 (0), .int .i64 0]) ∧ Rw w' B r n R (H) (m + 1) hv tv ∧ Fr (Ow r hv) w w' := by
  have hc : c < R.length := by simpa using (tk_lt ht).2
  have h1 := h.alloc (opC 3 c a b)
  have hth := there_any h1 (c : Int)
  rw [ht] at hth
  have HT := hide2 hth
  have hrl := h.lt
  obtain ⟨c0, c1, c2, c3⟩ := h.cells
  have f3 := h.free 3
  have h2 := h.many (m + 1)
  have F2 := Fr.setCell (p := ⟨r, 3, none⟩) (Fr.refl (Ow r hv) w) (.inl (.inl rfl)) (.int .i64 (m + 1))
  obtain ⟨d0, d1, d2, d3⟩ := h2.cells
  obtain ⟨g, cap, rfl, hg, hcell⟩ := h2.hrow (by omega)
  have hgl := (h2.hr.lt g rfl).2
  have hgl2 : g < w.heap.size := by simpa using hgl
  have hrg : r ≠ g := fun e => h.nh (by rw [e]; rfl)
  obtain ⟨q0, q1⟩ := hcell c hc
  have hc2 : (c : Int) < (R.length : Int) := by omega
  have H2 := hide2 h2
  have HF2 := hide2 F2
  have HH := hide2 h
  clear hth h2 F2 hcell h1 h
  generalize hlen : R.length = len at *
  have HL := hide2 hlen
  clear hlen
  generalize hxx : H.getD c 0 = x at *
  have HX := hide2 hxx
  clear hxx
  have ht1 : (x == a) = false := by simpa using hne
  have ht2 : (x != a) = true := by simpa using hne
  go_enter Tryd.func25, Tryd.ntmps25
  go_wp2_with fail
  refine HT.out.mono ?_
  rintro e w1 ⟨rfl, rfl⟩
  clear HT
  go_wp2
  go_quiet (fail)
  go_wp2
  go_ret2
  exact ⟨rfl, (H2.out.alloc _).drewN _, (HF2.out.alloc _).drewN _⟩

set_option maxRecDepth 100000 in
set_option maxHeartbeats 2000000 in
theorem fDo_casYes (h : Rw w B r n R H m hv tv) (hB : B ≤ w.heap.size) (c : Nat) (a b : Int) (ht : tk R c = true) (hm : 0 ≤ m ∧ m < 4611686018427387904) (hb : U64 b) (heq : H.getD c 0 = a) :
    Calls Tryd.prog 25 #[.pointer (some ⟨r, 0, none⟩), opV 3 c a b] w fun e w' => e = .returned (.tuple #[.int .u64 (1), .int .i64 0]) ∧ Rw w' B r n R (H.set c b) (m + 1) hv tv ∧ Fr (Ow r hv) w w' := by
  have hc : c < R.length := by simpa using (tk_lt ht).2
  have h1 := h.alloc (opC 3 c a b)
  have hth := there_any h1 (c : Int)
  rw [ht] at hth
  have HT := hide2 hth
  have hrl := h.lt
  obtain ⟨c0, c1, c2, c3⟩ := h.cells
  have f3 := h.free 3
  have h2 := h.many (m + 1)
  have F2 := Fr.setCell (p := ⟨r, 3, none⟩) (Fr.refl (Ow r hv) w) (.inl (.inl rfl)) (.int .i64 (m + 1))
  obtain ⟨d0, d1, d2, d3⟩ := h2.cells
  obtain ⟨g, cap, rfl, hg, hcell⟩ := h2.hrow (by omega)
  have hgl := (h2.hr.lt g rfl).2
  have hgl2 : g < w.heap.size := by simpa using hgl
  have hrg : r ≠ g := fun e => h.nh (by rw [e]; rfl)
  obtain ⟨q0, q1⟩ := hcell c hc
  have hc2 : (c : Int) < (R.length : Int) := by omega
  have H2 := hide2 h2
  have HF2 := hide2 F2
  have HH := hide2 h
  clear hth h2 F2 hcell h1 h
  generalize hlen : R.length = len at *
  have HL := hide2 hlen
  clear hlen
  generalize hxx : H.getD c 0 = x at *
  have HX := hide2 hxx
  clear hxx
  have ht1 : (x == a) = true := by simpa using heq
  have ht2 : (x != a) = false := by simpa using heq
  go_enter Tryd.func25, Tryd.ntmps25
  go_wp2_with fail
  refine HT.out.mono ?_
  rintro e w1 ⟨rfl, rfl⟩
  clear HT
  go_wp2
  go_quiet (fail)
  go_wp2
  go_region
  all_goals go_wp2
  all_goals go_ret2
  all_goals
    have hl := HL.out
    subst hl
  all_goals exact ⟨rfl, Rw.numb ((H2.out.alloc _).drewN _) c _ hb, Fr.setCell (p := ⟨g, c, none⟩) ((HF2.out.alloc _).drewN _) (.inl (.inr rfl)) _⟩

set_option maxRecDepth 100000 in
set_option maxHeartbeats 2000000 in
theorem fDo_add (h : Rw w B r n R H m hv tv) (hB : B ≤ w.heap.size) (c : Nat) (a b : Int) (ht : tk R c = true) (hm : 0 ≤ m ∧ m < 4611686018427387904) :
    Calls Tryd.prog 25 #[.pointer (some ⟨r, 0, none⟩), opV 4 c a b] w fun e w' => e = .returned (.tuple #[.int .u64 (IntKind.u64.wrap (H.getD c 0 + a)), .int .i64 0]) ∧ Rw w' B r n R (H.set c (IntKind.u64.wrap (H.getD c 0 + a))) (m + 1) hv tv ∧ Fr (Ow r hv) w w' := by
  have hc : c < R.length := by simpa using (tk_lt ht).2
  have h1 := h.alloc (opC 4 c a b)
  have hth := there_any h1 (c : Int)
  rw [ht] at hth
  have HT := hide2 hth
  have hrl := h.lt
  obtain ⟨c0, c1, c2, c3⟩ := h.cells
  have f3 := h.free 3
  have h2 := h.many (m + 1)
  have F2 := Fr.setCell (p := ⟨r, 3, none⟩) (Fr.refl (Ow r hv) w) (.inl (.inl rfl)) (.int .i64 (m + 1))
  obtain ⟨d0, d1, d2, d3⟩ := h2.cells
  obtain ⟨g, cap, rfl, hg, hcell⟩ := h2.hrow (by omega)
  have hgl := (h2.hr.lt g rfl).2
  have hgl2 : g < w.heap.size := by simpa using hgl
  have hrg : r ≠ g := fun e => h.nh (by rw [e]; rfl)
  obtain ⟨q0, q1⟩ := hcell c hc
  have hc2 : (c : Int) < (R.length : Int) := by omega
  have H2 := hide2 h2
  have HF2 := hide2 F2
  have HH := hide2 h
  clear hth h2 F2 hcell h1 h
  generalize hlen : R.length = len at *
  have HL := hide2 hlen
  clear hlen
  generalize hxx : H.getD c 0 = x at *
  have HX := hide2 hxx
  clear hxx
  go_enter Tryd.func25, Tryd.ntmps25
  go_wp2_with fail
  refine HT.out.mono ?_
  rintro e w1 ⟨rfl, rfl⟩
  clear HT
  go_wp2
  go_quiet (fail)
  go_wp2
  go_region
  all_goals go_wp2
  all_goals go_ret2
  all_goals
    have hl := HL.out
    subst hl
  all_goals exact ⟨rfl, Rw.numb ((H2.out.alloc _).drewN _) c _ (by rw [IntKind.wrap_u64]; omega), Fr.setCell (p := ⟨g, c, none⟩) ((HF2.out.alloc _).drewN _) (.inl (.inr rfl)) _⟩

/-- Do, of an operation that may be, of an arena all of whose cells are taken. -/
theorem fDo_right (h : Rw w B r n R H m hv tv) (hB : B ≤ w.heap.size) (o : OpR) (ho : o.ok) (hk : 1 ≤ o.k ∧ o.k ≤ 4) (hc : 0 ≤ o.c) (ht : tk R o.c = true) (hm : 0 ≤ m ∧ m < 4611686018427387904) :
    Calls Tryd.prog 25 #[.pointer (some ⟨r, 0, none⟩), opV o.k o.c o.a o.b] w fun e w' => e = .returned (.tuple #[.int .u64 (act o.k.toNat o.a o.b (H.getD o.c.toNat 0)).1, .int .i64 0]) ∧ Rw w' B r n R (H.set o.c.toNat (act o.k.toNat o.a o.b (H.getD o.c.toNat 0)).2) (m + 1) hv tv ∧ Fr (Ow r hv) w w' := by
  obtain ⟨k, c, a, b⟩ := o
  obtain ⟨h1, h2, h3, h4⟩ := ho
  simp only at *
  obtain ⟨c, rfl⟩ : ∃ c' : Nat, c = c' := ⟨c.toNat, by omega⟩
  rw [Int.toNat_natCast]
  have hcl : c < H.length := by rw [h.len]; simpa using (tk_lt ht).2
  have hcase : k = 1 ∨ k = 2 ∨ k = 3 ∨ k = 4 := by omega
  rcases hcase with rfl | rfl | rfl | rfl
  · refine (fDo_load h hB c a b ht hm).mono ?_
    rintro e w' ⟨rfl, hR, hF⟩
    refine ⟨rfl, ?_, hF⟩
    show Rw w' B r n R (H.set c (H.getD c 0)) (m + 1) hv tv
    rw [set_self H c hcl]
    exact hR
  · exact fDo_store h hB c a b ht hm h3
  · by_cases heq : H.getD c 0 = a
    · have e1 : act 3 a b (H.getD c 0) = (1, b) := by rw [heq]; simp [act]
      show Calls _ _ _ _ fun e w' => e = .returned (.tuple #[.int .u64 (act 3 a b (H.getD c 0)).1, .int .i64 0]) ∧ Rw w' B r n R (H.set c (act 3 a b (H.getD c 0)).2) (m + 1) hv tv ∧ Fr (Ow r hv) w w'
      rw [e1]
      exact fDo_casYes h hB c a b ht hm h4 heq
    · have e1 : act 3 a b (H.getD c 0) = (0, H.getD c 0) := by unfold act; rw [if_neg (by decide), if_neg (by decide), if_pos rfl, if_neg heq]
      show Calls _ _ _ _ fun e w' => e = .returned (.tuple #[.int .u64 (act 3 a b (H.getD c 0)).1, .int .i64 0]) ∧ Rw w' B r n R (H.set c (act 3 a b (H.getD c 0)).2) (m + 1) hv tv ∧ Fr (Ow r hv) w w'
      rw [e1, set_self H c hcl]
      exact fDo_casNo h hB c a b ht hm heq
  · have e1 : act 4 a b (H.getD c 0) = (IntKind.u64.wrap (H.getD c 0 + a), IntKind.u64.wrap (H.getD c 0 + a)) := by simp [act, IntKind.wrap_u64]
    show Calls _ _ _ _ fun e w' => e = .returned (.tuple #[.int .u64 (act 4 a b (H.getD c 0)).1, .int .i64 0]) ∧ Rw w' B r n R (H.set c (act 4 a b (H.getD c 0)).2) (m + 1) hv tv ∧ Fr (Ow r hv) w w'
    rw [e1]
    exact fDo_add h hB c a b ht hm
end
end Go.Proofs.YtnpmldlnckbppaaDoor
