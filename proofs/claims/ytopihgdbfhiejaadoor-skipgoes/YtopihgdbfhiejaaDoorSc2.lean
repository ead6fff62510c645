/-
  leave: an operation leaves a level; rise: it goes on to the level above.
-/
import Derived.Test.YtopihgdbfhiejaaDoorSc1
set_option linter.unusedVariables false
set_option linter.unusedSimpArgs false
namespace Go.Proofs.YtopihgdbfhiejaaDoor
open Go.RowKit Go.Maps

def Opm.left (o : Opm) (s : Sl) (gr : Nat) : Opm :=
  if o.tw ≠ 0 then { o with st := 3 } else if o.lv ≠ 0 then { o with lv := o.lv - 1, pt := upd o.pt (o.lv - 1) (o.pt o.lv) } else
  if o.kind = 0 then o.ans s 0 false else if o.kind = 1 then o.ans s gr (decide (gr ≠ 0)) else if o.full = true then ({ o with code := 31 } : Opm).ans s 0 false else { o with st := 2 }
def Opm.rose (o : Opm) (s : Sl) : Opm := if o.lv + 1 = o.h then ({ o with st := 3, lv := o.lv + 1 } : Opm).ans s o.tw false else { o with st := 3, lv := o.lv + 1 }

section
variable {w w' : World} {K B : Nat → Prop} {lb d g gt tc : Nat} {sv : Value} {T : List Bool} {N : List Int} {m : Int} {F : List Nat} {s : Sl} {ob : Nat} {cv : Value} {o : Opm}
theorem Ob.put1 {o' : Opm} (h : Ob w B ob lb cv o) {i : Nat} {v : Value} (ho : Om (w.setCell ⟨ob, i, none⟩ v) ob (lpp lb) cv o') (hc : o'.cs = o.cs) : Ob (w.setCell ⟨ob, i, none⟩ v) B ob lb cv o' ∧ Fr B w (w.setCell ⟨ob, i, none⟩ v) := by
  have hF : Fr (fun j => j = ob) w (w.setCell ⟨ob, i, none⟩ v) := Fr.setCell (p := ⟨ob, i, none⟩) (Fr.refl (fun j => j = ob) w) (.inl rfl) _
  exact ⟨h.put ho hc hF, hF.mono (fun j _ e => h.kk j (.inl e))⟩
theorem Ob.drewn (h : Ob w B ob lb cv o) (q : Nat) : Ob (w.drewN q) B ob lb cv o := h.keep ((Fr.refl (fun _ => False) w).drewN q) (fun _ _ e => e)

set_option maxRecDepth 100000 in
set_option maxHeartbeats 2000000 in
theorem leave_tw (h : Lm w K lb d g gt tc sv T N m F s) (ho : Ob w B ob lb cv o) (hKB : ∀ j, K j → ¬ B j) (gr : Nat) (h1 : o.tw ≠ 0) :
    Calls Tryd.prog 57 #[.pointer (some ⟨ob, 0, none⟩), .int .i64 (gr : Int)] w fun e w' => e = .returned (.tuple #[]) ∧ ∃ cv', Lm w' K lb d g gt tc sv T N m F s ∧ Ob w' B ob lb cv' { o with st := 3 } ∧ Fr B w w' := by
  have c := ho.om.cells
  have c21 := c.2.2.2.2.1
  have c41 := c.2.2.2.2.2.2.2.2.1
  have f21 := ho.om.free 21
  have hx := ho.put1 (ho.om.setSt 3) rfl
  have HX := hide2 hx
  have H := hide2 (h.keep hx.2 hKB ho.b0)
  have d1 : ¬ (o.tw : Int) = 0 := by omega
  have d2 : ((o.tw : Int) == 0) = false := by rw [beq_eq_false_iff_ne]; omega
  clear h ho hx c
  go_enter Tryd.func57, Tryd.ntmps57
  go_wp2
  go_end0
  exact ⟨rfl, cv, H.out, HX.out.1, HX.out.2⟩

set_option maxRecDepth 100000 in
set_option maxHeartbeats 2000000 in
theorem leave_down (h : Lm w K lb d g gt tc sv T N m F s) (ho : Ob w B ob lb cv o) (hKB : ∀ j, K j → ¬ B j) (gr : Nat) (h1 : o.tw = 0) (h2 : o.lv ≠ 0) (h8 : o.lv < 8) :
    Calls Tryd.prog 57 #[.pointer (some ⟨ob, 0, none⟩), .int .i64 (gr : Int)] w fun e w' => e = .returned (.tuple #[]) ∧ ∃ cv', Lm w' K lb d g gt tc sv T N m F s ∧ Ob w' B ob lb cv' { o with lv := o.lv - 1, pt := upd o.pt (o.lv - 1) (o.pt o.lv) } ∧ Fr B w w' := by
  obtain ⟨l, hl⟩ : ∃ l, o.lv = l + 1 := ⟨o.lv - 1, by omega⟩
  have hl2 : o.lv - 1 = l := by omega
  rw [hl2, hl]
  have c := ho.om.cells
  have c22 := c.2.2.2.2.2.1
  have c41 := c.2.2.2.2.2.2.2.2.1
  rw [h1] at c41
  rw [hl] at c22
  have cp := ho.om.ptAt (l := l + 1) (by omega)
  have f22 := ho.om.free 22
  have hx : ∀ q, Ob ((w.drewN q).setCell ⟨ob, 22, none⟩ (.int .i64 (l : Int))) B ob lb cv { o with lv := l } ∧ Fr B (w.drewN q) ((w.drewN q).setCell ⟨ob, 22, none⟩ (.int .i64 (l : Int))) := fun q => (ho.drewn q).put1 ((ho.drewn q).om.setLv l) rfl
  have hob := ho.om.lt
  have HX := hide2 hx
  have H := hide2 h
  have HO := hide2 ho
  have d3 : IntKind.i64.wrap (((l + 1 : Nat) : Int) - 1) = (l : Int) := by rw [IntKind.wrap_i64]; omega
  have d3' : IntKind.i64.wrap ((l : Int) + 1 - 1) = (l : Int) := by rw [IntKind.wrap_i64]; omega
  have d4 : ((l + 1 : Nat) : Int) < 8 := by omega
  have d5 : (l : Int) + 1 < 8 := by omega
  have d6 : (0 : Int) < (l : Int) + 1 := by omega
  clear h ho hx c h1 h2
  go_enter Tryd.func57, Tryd.ntmps57
  go_wp2
  go_quiet (fail)
  go_wp2
  obtain ⟨hx1, hx2⟩ := HX.out nq
  obtain ⟨w2, hw2⟩ : ∃ y, y = (w.drewN nq).setCell ⟨ob, 22, none⟩ (.int .i64 (l : Int)) := ⟨_, rfl⟩
  try rw [← hw2]
  rw [← hw2] at hx1 hx2
  have e22 := hx1.om.cells.2.2.2.2.2.1
  have ep := hx1.om.ptAt (l := l) (by omega)
  have fp := hx1.om.free (23 + l * 2)
  have hl8 : (l : Int) < 8 := by omega
  have hob2 := hx1.om.lt
  have hy := hx1.put1 (hx1.om.setPt (l := l) (by omega) (o.pt (l + 1))) rfl
  have HY := hide2 hy
  have HX2 := hide2 hx2
  clear hx1 hx2 hy HX hw2 c22 c41 cp f22
  go_region
  all_goals
    go_wp2
    go_end0
    have hF := ((((Fr.refl B w).drewN nq).trans HX2.out (fun j e => .inl e)).trans HY.out.2 (fun j e => .inl e)).drewN 1
    exact ⟨rfl, H.out.keep hF hKB HO.out.b0, ⟨cv, HY.out.1.drewn 1⟩, hF⟩

set_option maxRecDepth 100000 in
set_option maxHeartbeats 2000000 in
theorem leave_low (h : Lm w K lb d g gt tc sv T N m F s) (ho : Ob w B ob lb cv o) (hKB : ∀ j, K j → ¬ B j) {gr : Nat} (hgr : gr < s.tw.length) (h1 : o.tw = 0) (h2 : o.lv = 0) (hl : o.cs.length ≤ 1000000) :
    Calls Tryd.prog 57 #[.pointer (some ⟨ob, 0, none⟩), .int .i64 (gr : Int)] w fun e w' => e = .returned (.tuple #[]) ∧ ∃ cv', Lm w' K lb d g gt tc sv T N m F s ∧ Ob w' B ob lb cv' (o.left s gr) ∧ Fr B w w' := by
  unfold Opm.left
  rw [if_neg (by rw [h1]; decide), if_neg (by rw [h2]; decide)]
  have c := ho.om.cells
  have c1 := c.2.1
  have c21 := c.2.2.2.2.1
  have c22 := c.2.2.2.2.2.1
  have c40 := c.2.2.2.2.2.2.2.1
  have c41 := c.2.2.2.2.2.2.2.2.1
  have c61 := c.2.2.2.2.2.2.2.2.2.2.2
  have f21 := ho.om.free 21
  have f61 := ho.om.free 61
  have hob := ho.om.lt
  rw [h1] at c41
  rw [h2] at c22
  clear c h1 h2
  by_cases k0 : o.kind = 0
  · rw [if_pos k0]
    rw [k0] at c1
    have HA := hide2 (answer_any h ho hKB (i := 0) (by omega) false hl)
    clear h ho k0
    go_enter Tryd.func57, Tryd.ntmps57
    go_wp2_with fail
    refine HA.out.mono ?_
    rintro e w1 ⟨rfl, q⟩
    go_wp2
    go_end0
    exact ⟨rfl, q⟩
  · rw [if_neg k0]
    by_cases k1 : o.kind = 1
    · rw [if_pos k1]
      rw [k1] at c1
      have HA := hide2 (answer_any h ho hKB (i := gr) hgr (decide (gr ≠ 0)) hl)
      have e1 : (!((gr : Int) == 0)) = decide (gr ≠ 0) := by
        by_cases q : gr = 0
        · simp [q]
        · have : ¬ (gr : Int) = 0 := by omega
          simp [q, this]
      rw [← e1] at HA ⊢
      clear h ho k0 k1 e1
      go_enter Tryd.func57, Tryd.ntmps57
      go_wp2_with fail
      refine HA.out.mono ?_
      rintro e w1 ⟨rfl, q⟩
      go_wp2
      go_end0
      exact ⟨rfl, q⟩
    · rw [if_neg k1]
      have d0 : ((o.kind : Int) == 0) = false := by rw [beq_eq_false_iff_ne]; omega
      have d1 : ((o.kind : Int) == 1) = false := by rw [beq_eq_false_iff_ne]; omega
      have d2 : ¬ (o.kind : Int) = 0 := by omega
      have d3 : ¬ (o.kind : Int) = 1 := by omega
      by_cases kf : o.full = true
      · rw [if_pos kf]
        rw [kf] at c40
        have hx := ho.put1 (ho.om.setCode 31) rfl
        have h1 := h.keep hx.2 hKB ho.b0
        have HA := hide2 (answer_any h1 hx.1 hKB (i := 0) (by omega) false hl)
        have HX := hide2 hx
        clear h ho hx h1 k0 k1 kf
        go_enter Tryd.func57, Tryd.ntmps57
        go_wp2_with fail
        refine HA.out.mono ?_
        rintro e w1 ⟨rfl, cv', q1, q2, q3⟩
        go_wp2
        go_end0
        exact ⟨rfl, cv', q1, q2, HX.out.2.trans q3 (fun j e => .inl e)⟩
      · rw [if_neg kf]
        have kf2 : o.full = false := by simpa using kf
        rw [kf2] at c40
        have hx := ho.put1 (ho.om.setSt 2) rfl
        have H := hide2 (h.keep hx.2 hKB ho.b0)
        have HX := hide2 hx
        clear h ho hx k0 k1 kf kf2
        go_enter Tryd.func57, Tryd.ntmps57
        go_wp2
        go_end0
        exact ⟨rfl, cv, H.out, HX.out.1, HX.out.2⟩

theorem leave_any (h : Lm w K lb d g gt tc sv T N m F s) (ho : Ob w B ob lb cv o) (hKB : ∀ j, K j → ¬ B j) {gr : Nat} (hgr : gr < s.tw.length) (h8 : o.lv < 8) (hl : o.cs.length ≤ 1000000) :
    Calls Tryd.prog 57 #[.pointer (some ⟨ob, 0, none⟩), .int .i64 (gr : Int)] w fun e w' => e = .returned (.tuple #[]) ∧ ∃ cv', Lm w' K lb d g gt tc sv T N m F s ∧ Ob w' B ob lb cv' (o.left s gr) ∧ Fr B w w' := by
  by_cases h1 : o.tw ≠ 0
  · have e : o.left s gr = { o with st := 3 } := by unfold Opm.left; rw [if_pos h1]
    rw [e]; exact leave_tw h ho hKB gr h1
  · by_cases h2 : o.lv ≠ 0
    · have e : o.left s gr = { o with lv := o.lv - 1, pt := upd o.pt (o.lv - 1) (o.pt o.lv) } := by unfold Opm.left; rw [if_neg h1, if_pos h2]
      rw [e]; exact leave_down h ho hKB gr (by omega) h2 h8
    · exact leave_low h ho hKB hgr (by omega) (by omega) hl

set_option maxRecDepth 100000 in
set_option maxHeartbeats 2000000 in
theorem rise_any (h : Lm w K lb d g gt tc sv T N m F s) (ho : Ob w B ob lb cv o) (hKB : ∀ j, K j → ¬ B j) (htw : o.tw < s.tw.length) (h8 : o.lv < 8) (hl : o.cs.length ≤ 1000000) :
    Calls Tryd.prog 64 #[.pointer (some ⟨ob, 0, none⟩)] w fun e w' => e = .returned (.tuple #[]) ∧ ∃ cv', Lm w' K lb d g gt tc sv T N m F s ∧ Ob w' B ob lb cv' (o.rose s) ∧ Fr B w w' := by
  have c := ho.om.cells
  have c20 := c.2.2.2.1
  have c21 := c.2.2.2.2.1
  have c22 := c.2.2.2.2.2.1
  have c41 := c.2.2.2.2.2.2.2.2.1
  have f21 := ho.om.free 21
  have f22 := ho.om.free 22
  have hob := ho.om.lt
  have d3 : IntKind.i64.wrap ((o.lv : Int) + 1) = (o.lv : Int) + 1 := by rw [IntKind.wrap_i64]; omega
  have x1 : Ob (w.setCell ⟨ob, 21, none⟩ (.int .i64 3)) B ob lb cv { o with st := 3 } ∧ Fr B w (w.setCell ⟨ob, 21, none⟩ (.int .i64 3)) := ho.put1 (ho.om.setSt 3) rfl
  have x2 : Ob ((w.setCell ⟨ob, 21, none⟩ (.int .i64 3)).setCell ⟨ob, 22, none⟩ (.int .i64 ((o.lv : Int) + 1))) B ob lb cv { o with st := 3, lv := o.lv + 1 } ∧ Fr B (w.setCell ⟨ob, 21, none⟩ (.int .i64 3)) ((w.setCell ⟨ob, 21, none⟩ (.int .i64 3)).setCell ⟨ob, 22, none⟩ (.int .i64 ((o.lv : Int) + 1))) := x1.1.put1 (x1.1.om.setLv (o.lv + 1)) rfl
  have hF := x1.2.trans x2.2 (fun j e => .inl e)
  obtain ⟨w2, hw2⟩ : ∃ y, y = (w.setCell ⟨ob, 21, none⟩ (.int .i64 3)).setCell ⟨ob, 22, none⟩ (.int .i64 ((o.lv : Int) + 1)) := ⟨_, rfl⟩
  rw [← hw2] at x2 hF
  have h2 := h.keep hF hKB ho.b0
  have e := x2.1.om.cells
  have e20 := e.2.2.2.1
  have e22 : w2.cell? ⟨ob, 22, none⟩ = some (.int .i64 ((o.lv : Int) + 1)) := e.2.2.2.2.2.1
  have e41 := e.2.2.2.2.2.2.2.2.1
  have hob2 := x2.1.om.lt
  have HF := hide2 hF
  have X2 := hide2 x2.1
  have H2 := hide2 h2
  clear c e x1 x2 hF h ho h2
  go_enter Tryd.func64, Tryd.ntmps64
  go_wp2
  try rw [← hw2]
  clear hw2 c20 c21 c22 c41 f21 f22
  by_cases hq : o.lv + 1 = o.h
  · have d1 : (((o.lv : Int) + 1) == (o.h : Int)) = true := by rw [beq_iff_eq]; omega
    have d2 : (o.lv : Int) + 1 = (o.h : Int) := by omega
    have e1 : o.rose s = ({ o with st := 3, lv := o.lv + 1 } : Opm).ans s o.tw false := by unfold Opm.rose; rw [if_pos hq]
    have E1 := hide2 e1
    clear e1
    have HA : Hid (∀ q, Calls Tryd.prog 58 #[.pointer (some ⟨ob, 0, none⟩), .int .i64 (o.tw : Int), .bool false] (w2.drewN q) fun e w' => e = .returned (.tuple #[]) ∧ ∃ cv', Lm w' K lb d g gt tc sv T N m F s ∧ Ob w' B ob lb cv' (({ o with st := 3, lv := o.lv + 1 } : Opm).ans s o.tw false) ∧ Fr B (w2.drewN q) w') := hide2 (fun q => answer_any (H2.out.keep ((Fr.refl (fun _ => False) w2).drewN q) (fun _ _ e => e) (fun e => e)) (X2.out.drewn q) hKB htw false hl)
    clear hq d2
    go_quiet (fail)
    go_wp2_with fail
    refine (HA.out nq).mono ?_
    rintro e w1 ⟨rfl, cv', q1, q2, q3⟩
    go_wp2
    go_end0
    rw [E1.out]
    exact ⟨rfl, cv', q1, q2, (HF.out.trans ((Fr.refl B w2).drewN nq) (fun j e => .inl e)).trans q3 (fun j e => .inl e)⟩
  · have d1 : (((o.lv : Int) + 1) == (o.h : Int)) = false := by rw [beq_eq_false_iff_ne]; omega
    have d2 : ¬ (o.lv : Int) + 1 = (o.h : Int) := by omega
    have e1 : o.rose s = { o with st := 3, lv := o.lv + 1 } := by unfold Opm.rose; rw [if_neg hq]
    have E1 := hide2 e1
    clear hq e1
    go_quiet (fail)
    go_wp2
    go_end0
    rw [E1.out]
    exact ⟨rfl, cv, H2.out.keep ((Fr.refl (fun _ => False) w2).drewN nq) (fun _ _ e => e) (fun e => e), X2.out.drewn nq, HF.out.trans ((Fr.refl B w2).drewN nq) (fun j e => .inl e)⟩
end
end Go.Proofs.YtopihgdbfhiejaaDoor
