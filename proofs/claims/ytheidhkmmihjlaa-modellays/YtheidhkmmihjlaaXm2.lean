/-
  Xm2: What is there for a transaction; what may be wrong with a call, one function each.
-/
import Derived.Test.YtheidhkmmihjlaaXm1
set_option linter.unusedVariables false
set_option linter.unusedSimpArgs false
namespace Go.Proofs.Ytheidhkmmihjlaa
open Go.RowKit Go.Shelf Go.Maps
open ML (Ro RS Srt nless fstOf Fst strLit strLit_inj setL setL_same setL_other delL delL_same delL_other od nl_irr nl_tr nl_tot Mg Rdg RVs strKeyed str_key turned_below zeroRo)
attribute [local go_sem] Oper.semAt_some

theorem xdrew {B : Nat} {a w : World} (h : Below B a w) (q : Nat) : Below B a (w.drewN q) := ⟨h.os, h.tape, h.output, h.size, h.block⟩
theorem zeroWr (u : World) : (zeroValue 61).run Try.prog u = .ok (.agg #[.string .empty, .string .empty, .bool false]) u := by kernel_rfl
section
set_option maxHeartbeats 4000000
set_option maxRecDepth 100000
variable {w : World} {X b : Nat} {c : Option Nat} {S : Ms}
theorem Pm.ne (h : Pm w X b c S) (u : World) : (binOp .neq 64 (.map c) (.map none)).run Try.prog u = .ok (.bool S.ws.isSome) u := by
  have hw := h.wm
  cases hs : S.ws with
  | none => rw [hs] at hw; rw [show c = none from hw]; exact neWn u
  | some ws => rw [hs] at hw; obtain ⟨c0, g, rfl, _⟩ := hw; exact neWs c0 u
theorem Pm.eq (h : Pm w X b c S) (u : World) : (binOp .eql 64 (.map c) (.map none)).run Try.prog u = .ok (.bool S.ws.isNone) u := by
  have hw := h.wm
  cases hs : S.ws with
  | none => rw [hs] at hw; rw [show c = none from hw]; exact eqWn u
  | some ws => rw [hs] at hw; obtain ⟨c0, g, rfl, _⟩ := hw; exact eqWs c0 u
theorem look_any (h : Pm w X b c S) (ho : S.ws ≠ none) (k : ByteArray) (hk : k.size ≤ maxLen) :
    Calls Try.prog 68 #[ptr X, .string k] w fun e w' => e = .returned (.tuple #[.string ((look S k).getD .empty), .bool (look S k).isSome]) ∧ Below w.heap.size w w' := by
  obtain ⟨c0, c1, c2⟩ := h.cells
  obtain ⟨ws, hws⟩ := Option.ne_none_iff_exists'.1 ho
  have hwm := h.wm
  rw [hws] at hwm
  obtain ⟨d, g, rfl, hM, hF⟩ := hwm
  obtain ⟨f, hMr, hFr⟩ := h.rm
  have hS := (h.ok.wsrt ws hws).1
  have hlk := hM.look strKeyed Try.underlying64 (zeroWr w) (str_key hk)
  rw [show (Lit.string k.data.toList) = strLit k from rfl, hF.at hS] at hlk
  have hsz : Below w.heap.size w w := Below.refl _ _
  have HB := xhide h
  cases hq : wOf ws k with
  | some x =>
    have hx := (wOf_some hS).1 hq
    rw [hq] at hlk
    simp only [Option.map_some, Option.getD_some, Option.isSome_some] at hlk
    have hl : look S k = if x.gone then none else some x.val := by unfold look; rw [hws, Option.getD_some, hq]
    obtain ⟨xk, xv, xg⟩ := x
    have hg := (okW_iff.1 ((h.ok.wsrt ws hws).2.2 _ hx.1)).2.2
    clear hF hM hMr hFr h hx
    cases xg with
    | true =>
      have hv : xv = .empty := size_zero (hg rfl)
      subst hv
      rw [show look S k = none from hl]
      go_enter Try.func68, Try.ntmps68
      go_wp2_with (go_quiet (fail))
      go_ret2
      exact ⟨rfl, xdrew (ML.below1 _ _) _⟩
    | false =>
      rw [show look S k = some xv from hl]
      go_enter Try.func68, Try.ntmps68
      go_wp2_with (go_quiet (fail))
      go_ret2
      exact ⟨rfl, xdrew (ML.below1 _ _) _⟩
  | none =>
    rw [hq] at hlk
    simp only [Option.map_none, Option.getD_none, Option.isSome_none] at hlk
    have hl : look S k = (fstOf S.L k).map Ro.v := by unfold look; rw [hws, Option.getD_some, hq]
    obtain ⟨W1, hW1⟩ : ∃ W1, W1 = w.alloc (.cells #[.string .empty, .string .empty, .bool false] 61) := ⟨_, rfl⟩
    have hb1 : Below w.heap.size w W1 := by rw [hW1]; exact ML.below1 _ _
    have hMr1 := hMr.same (hb1.block _ hMr.lt)
    have y0 := (hb1.cell (p := ⟨X, 0, none⟩) h.lt).trans c0
    have hlr := hMr1.look strKeyed Try.underlying63 (zeroRo W1) (str_key hk)
    rw [show (Lit.string k.data.toList) = strLit k from rfl, (hFr.fst h.ok.srt).2] at hlr
    rw [hW1] at hlr y0
    cases hr : fstOf S.L k with
    | some r =>
      rw [hr] at hlr hl
      simp only [Option.map_some, Option.getD_some, Option.isSome_some] at hlr hl
      clear hF hM hMr hFr h hMr1 hW1 hb1
      rw [hl]
      go_enter Try.func68, Try.ntmps68
      go_wp2_with (go_quiet (fail))
      go_ret2
      exact ⟨rfl, ML.below2 _ _ _⟩
    | none =>
      rw [hr] at hlr hl
      simp only [Option.map_none, Option.getD_none, Option.isSome_none] at hlr hl
      clear hF hM hMr hFr h hMr1 hW1 hb1
      rw [hl]
      go_enter Try.func68, Try.ntmps68
      go_wp2_with (go_quiet (fail))
      go_ret2
      exact ⟨rfl, ML.below2 _ _ _⟩

variable {C : Cl}
theorem isOpen_any (h : Pm w X b c S) (C : Cl) : Calls Try.prog 45 #[ptr X, C.v] w fun e w' => e = .returned (.int .i64 (if S.ws.isSome then 153 else 0)) ∧ Below w.heap.size w w' := by
  obtain ⟨c0, c1, c2⟩ := h.cells
  have q1 := h.ne
  have HE := xhide (fun w => errIf_any S.ws.isSome 153 w)
  obtain ⟨E, hE⟩ : ∃ E : Int, E = (if S.ws.isSome then 153 else 0) := ⟨_, rfl⟩
  rw [← hE] at HE ⊢
  clear hE
  have hl := h.lt
  clear h
  go_enter Try.func45, Try.ntmps45
  go_wp2_with fail
  refine (HE.out _).mono ?_
  rintro e w1 ⟨rfl, rfl⟩
  go_wp2
  go_ret
  exact ⟨rfl, ML.below1 _ _⟩
theorem isNotOpen_any (h : Pm w X b c S) (C : Cl) : Calls Try.prog 48 #[ptr X, C.v] w fun e w' => e = .returned (.int .i64 (if S.ws.isNone then 152 else 0)) ∧ Below w.heap.size w w' := by
  obtain ⟨c0, c1, c2⟩ := h.cells
  have q1 := h.eq
  have HE := xhide (fun w => errIf_any S.ws.isNone 152 w)
  obtain ⟨E, hE⟩ : ∃ E : Int, E = (if S.ws.isNone then 152 else 0) := ⟨_, rfl⟩
  rw [← hE] at HE ⊢
  clear hE
  have hl := h.lt
  clear h
  go_enter Try.func48, Try.ntmps48
  go_wp2_with fail
  refine (HE.out _).mono ?_
  rintro e w1 ⟨rfl, rfl⟩
  go_wp2
  go_ret
  exact ⟨rfl, ML.below1 _ _⟩
theorem noMode_any (X : Nat) (C : Cl) (w : World) : Calls Try.prog 46 #[ptr X, C.v] w fun e w' => e = .returned (.int .i64 (if badM C then 151 else 0)) ∧ Below w.heap.size w w' := by
  have HE := xhide (fun w => errIf_any (badM C) 151 w)
  obtain ⟨E, hE⟩ : ∃ E : Int, E = (if badM C then 151 else 0) := ⟨_, rfl⟩
  rw [← hE] at HE ⊢
  clear hE
  unfold badM at HE
  go_enter Try.func46, Try.ntmps46
  by_cases d1 : C.mode = 1
  · simp only [d1] at HE
    go_wp2_with fail
    refine (HE.out _).mono ?_
    rintro e w1 ⟨rfl, rfl⟩
    go_wp2
    go_ret
    exact ⟨rfl, ML.below1 _ _⟩
  · go_wp2_with fail
    refine (HE.out _).mono ?_
    rintro e w1 ⟨rfl, rfl⟩
    go_wp2
    go_ret
    exact ⟨rfl, ML.below1 _ _⟩
theorem noKey_any (X : Nat) (C : Cl) (w : World) : Calls Try.prog 49 #[ptr X, C.v] w fun e w' => e = .returned (.int .i64 (if !isK C.key then 154 else 0)) ∧ Below w.heap.size w w' := by
  have HE := xhide (fun w => errIf_any (!isK C.key) 154 w)
  obtain ⟨E, hE⟩ : ∃ E : Int, E = (if !isK C.key then 154 else 0) := ⟨_, rfl⟩
  rw [← hE] at HE ⊢
  clear hE
  have HK := xhide (fun w => mKey_any C.key w)
  generalize isK C.key = B at *
  go_enter Try.func49, Try.ntmps49
  go_wp2_with fail
  refine (HK.out _).mono ?_
  rintro e w1 ⟨rfl, rfl⟩
  go_wp2_with fail
  refine (HE.out _).mono ?_
  rintro e w1 ⟨rfl, rfl⟩
  go_wp2
  go_ret
  exact ⟨rfl, ML.below1 _ _⟩
theorem noValue_any (X : Nat) (C : Cl) (w : World) : Calls Try.prog 53 #[ptr X, C.v] w fun e w' => e = .returned (.int .i64 (if !isV C.val then 155 else 0)) ∧ Below w.heap.size w w' := by
  have HE := xhide (fun w => errIf_any (!isV C.val) 155 w)
  obtain ⟨E, hE⟩ : ∃ E : Int, E = (if !isV C.val then 155 else 0) := ⟨_, rfl⟩
  rw [← hE] at HE ⊢
  clear hE
  have HK := xhide (fun w => mVal_any C.val w)
  generalize isV C.val = B at *
  go_enter Try.func53, Try.ntmps53
  go_wp2_with fail
  refine (HK.out _).mono ?_
  rintro e w1 ⟨rfl, rfl⟩
  go_wp2_with fail
  refine (HE.out _).mono ?_
  rintro e w1 ⟨rfl, rfl⟩
  go_wp2
  go_ret
  exact ⟨rfl, ML.below1 _ _⟩
theorem noSpan_any (X : Nat) (C : Cl) (w : World) : Calls Try.prog 51 #[ptr X, C.v] w fun e w' => e = .returned (.int .i64 (if badS C then 154 else 0)) ∧ Below w.heap.size w w' := by
  have HE := xhide (fun w => errIf_any (badS C) 154 w)
  unfold badS at *
  go_enter Try.func51, Try.ntmps51
  by_cases h1 : 16 < C.key.size
  · have d1 : (16 : Int) < (C.key.size : Int) := by omega
    simp only [h1, decide_true, Bool.true_or] at HE ⊢
    go_wp2_with fail
    refine (HE.out _).mono ?_
    rintro e w1 ⟨rfl, rfl⟩
    go_wp2
    go_ret
    exact ⟨rfl, ML.below1 _ _⟩
  · have d1 : ¬ (16 : Int) < (C.key.size : Int) := by omega
    by_cases h2 : 16 < C.high.size
    · have d2 : (16 : Int) < (C.high.size : Int) := by omega
      simp only [h1, h2, decide_true, Bool.or_true] at HE ⊢
      go_wp2_with fail
      refine (HE.out _).mono ?_
      rintro e w1 ⟨rfl, rfl⟩
      go_wp2
      go_ret
      exact ⟨rfl, ML.below1 _ _⟩
    · have d2 : ¬ (16 : Int) < (C.high.size : Int) := by omega
      simp only [h1, h2, decide_false, Bool.or_self] at HE ⊢
      go_wp2_with fail
      refine (HE.out _).mono ?_
      rintro e w1 ⟨rfl, rfl⟩
      go_wp2
      go_ret
      exact ⟨rfl, ML.below1 _ _⟩
theorem isThere_any (h : Pm w X b c S) (ho : S.ws ≠ none) (hs : C.key.size ≤ maxLen) : Calls Try.prog 54 #[ptr X, C.v] w fun e w' => e = .returned (.int .i64 (if (look S C.key).isSome then 156 else 0)) ∧ Below w.heap.size w w' := by
  have HE := xhide (fun w => errIf_any (look S C.key).isSome 156 w)
  obtain ⟨E, hE⟩ : ∃ E : Int, E = (if (look S C.key).isSome then 156 else 0) := ⟨_, rfl⟩
  rw [← hE] at HE ⊢
  clear hE
  have hb1 := ML.below1 w (.cells #[.int .i64 C.kind, .int .i64 C.mode, .string C.key, .string C.high, .string C.val, .int .i64 C.draw, .int .i64 C.n] 33)
  have HK := xhide (look_any (h.below hb1) ho C.key hs)
  clear h hb1
  generalize (look S C.key).isSome = B at *
  generalize (look S C.key).getD .empty = V at *
  go_enter Try.func54, Try.ntmps54
  go_wp2_with fail
  refine HK.out.mono ?_
  rintro e w1 ⟨rfl, hb⟩
  go_wp2_with fail
  refine (HE.out _).mono ?_
  rintro e w1 ⟨rfl, rfl⟩
  go_wp2
  go_ret
  exact ⟨rfl, (ML.below1 _ _).trans (hb.mono (by simp))⟩
theorem isMissing_any (h : Pm w X b c S) (ho : S.ws ≠ none) (hs : C.key.size ≤ maxLen) : Calls Try.prog 56 #[ptr X, C.v] w fun e w' => e = .returned (.int .i64 (if !(look S C.key).isSome then 157 else 0)) ∧ Below w.heap.size w w' := by
  have HE := xhide (fun w => errIf_any (!(look S C.key).isSome) 157 w)
  obtain ⟨E, hE⟩ : ∃ E : Int, E = (if !(look S C.key).isSome then 157 else 0) := ⟨_, rfl⟩
  rw [← hE] at HE ⊢
  clear hE
  have hb1 := ML.below1 w (.cells #[.int .i64 C.kind, .int .i64 C.mode, .string C.key, .string C.high, .string C.val, .int .i64 C.draw, .int .i64 C.n] 33)
  have HK := xhide (look_any (h.below hb1) ho C.key hs)
  clear h hb1
  generalize (look S C.key).isSome = B at *
  generalize (look S C.key).getD .empty = V at *
  go_enter Try.func56, Try.ntmps56
  go_wp2_with fail
  refine HK.out.mono ?_
  rintro e w1 ⟨rfl, hb⟩
  go_wp2_with fail
  refine (HE.out _).mono ?_
  rintro e w1 ⟨rfl, rfl⟩
  go_wp2
  go_ret
  exact ⟨rfl, (ML.below1 _ _).trans (hb.mono (by simp))⟩
end
end Go.Proofs.Ytheidhkmmihjlaa
