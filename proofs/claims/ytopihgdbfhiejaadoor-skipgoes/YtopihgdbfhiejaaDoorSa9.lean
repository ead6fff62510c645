/-
  enough: as many cells as a tower is high.
-/
import Derived.Test.YtopihgdbfhiejaaDoorSa8
set_option linter.unusedVariables false
set_option linter.unusedSimpArgs false
namespace Go.Proofs.YtopihgdbfhiejaaDoor
open Go.RowKit Go.Maps

section
variable {w w' : World} {K B : Nat → Prop} {lb d g gt tc : Nat} {sv : Value} {T : List Bool} {N : List Int} {m : Int} {F : List Nat} {s : Sl} {ob : Nat} {cv : Value} {o : Opm}

theorem owned_all (h : ∀ c ∈ o.cs, c ∈ s.sp) : o.owned s = o := by
  unfold Opm.owned
  have : o.cs.filter (fun c => s.sp.contains c) = o.cs := List.filter_eq_self.2 (fun c hc => by simpa using h c hc)
  rw [this]

set_option maxRecDepth 100000 in
set_option maxHeartbeats 4000000 in
theorem enough_any (h : Lm w K lb d g gt tc sv T N m F s) (ho : Ob w B ob lb cv o) (hKB : ∀ j, K j → ¬ B j) (hcs : ∀ c ∈ o.cs, c ∈ s.sp) (hl2 : s.sp.length ≤ 100000) (hl3 : o.cs.length ≤ 100000) (hh : o.h ≤ 100000) :
    Calls Tryd.prog 61 #[.pointer (some ⟨ob, 0, none⟩)] w fun e w' => ∃ cv' v xs, e = .returned v ∧ Hr w' 0 v ((o.cs ++ xs).take o.h) ∧ (∀ j, v.ownBlock = some j → ¬ K j ∧ ¬ B j) ∧ (∀ c ∈ xs, c ∈ s.sp ∧ c ∉ o.cs) ∧ Lm w' K lb d g gt tc sv T N m F s ∧ Ob w' B ob lb cv' o ∧ Fr B w w' := by
  obtain ⟨i0, hi0, z0, z1, z2⟩ := info_parts infoH
  have HOW := hide2 (own_any h ho hKB (by omega))
  rw [owned_all hcs] at HOW
  have HKB := hide2 hKB
  have HKL := hide2 h.kl
  have HBL := hide2 ho.kl
  clear h ho hKB hcs
  go_enter Tryd.func61, Tryd.ntmps61
  go_wp2_with fail
  refine HOW.out.mono ?_
  rintro e w1 ⟨cv1, rfl, h1, o1, hF1⟩
  have HC := hide2 (clone_row o1.row (by omega))
  have H1 := hide2 h1
  have O1 := hide2 o1
  have HF1 := hide2 hF1
  obtain ⟨ca, cn, cc, ec⟩ : ∃ a n c, cv1 = Value.slice a n c := by obtain ⟨a, c, e⟩ := o1.row.form; exact ⟨a, _, c, e⟩
  subst ec
  clear h1 o1 hF1 HOW
  go_wp2_with fail
  refine HC.out.mono ?_
  rintro e w2 ⟨v2, rfl, hr2, hb2⟩
  have h2 := H1.out.below hb2
  have o2 := O1.out.below hb2
  have c0 := o2.om.cells.1
  have c20 := o2.om.cells.2.2.2.1
  have l2 := h2.lk.cells.2.2
  obtain ⟨so, sn, sc, es⟩ : ∃ a n c, sv = Value.slice a n c := by obtain ⟨a, c, e⟩ := h2.sp.form; exact ⟨a, _, c, e⟩
  obtain ⟨va, vn, vc, ev⟩ : ∃ a n c, v2 = Value.slice a n c := by obtain ⟨a, c, e⟩ := hr2.form; exact ⟨a, _, c, e⟩
  have hsn : sn = s.sp.length := by obtain ⟨a, c, e⟩ := h2.sp.form; rw [es] at e; cases e; rfl
  have H2 := hide2 h2
  have O2 := hide2 o2
  have HR2 := hide2 hr2
  have HB2 := hide2 hb2
  clear hr2 hb2 h2 o2 HC
  subst es ev hsn
  go_wp2
  go_loopw [17, 3, 5] (fun i v _ wr => ∃ (k : Nat) (xs : List Nat), k ≤ s.sp.length ∧ i = .int .i64 k ∧ xs.length ≤ k ∧ Hid (Hr wr w1.heap.size v (o.cs ++ xs)) ∧ Hid (∀ c ∈ xs, c ∈ s.sp ∧ c ∉ o.cs) ∧ Hid (Below w1.heap.size w1 wr)) (fun i _ _ _ => s.sp.length - (intOf i).toNat)
  case atStart => exact ⟨0, [], by omega, rfl, by simp, by rw [List.append_nil]; exact HR2, hide2 (fun c hc => by cases hc), HB2⟩
  case round =>
    obtain ⟨k, xs, hk, rfl, hxl, HR, HX, HB⟩ := hrel
    have hr := H1.out.below HB.out
    have or1 := O1.out.below HB.out
    obtain ⟨wa, wn, wc, ew⟩ : ∃ a n c, u3 = Value.slice a n c := by obtain ⟨a, c, e⟩ := HR.out.form; exact ⟨a, _, c, e⟩
    have hwn : wn = o.cs.length + xs.length := by
      obtain ⟨a, c, e⟩ := HR.out.form
      rw [ew] at e; cases e
      rw [List.length_append]
    subst ew
    have c20' := or1.om.cells.2.2.2.1
    have hobl := or1.om.lt
    by_cases hkl : k < s.sp.length
    · obtain ⟨gs, scap, e1, hcell⟩ := hr.sp.at hkl
      have e1s : so = some ⟨gs, 0, none⟩ := by cases e1; rfl
      subst e1s
      have hki : (k : Int) < (s.sp.length : Int) := by omega
      obtain ⟨c, hcdef⟩ : ∃ c, c = s.sp.getD k 0 := ⟨_, rfl⟩
      rw [← hcdef] at hcell
      have HCM : Hid (c ∈ s.sp) := hide2 (by rw [hcdef]; exact getD_mem hkl)
      obtain ⟨ao2, cap2, e2, hseq⟩ := HR.out.seq
      have HCO := hide2 (hContains_any hseq (c : Int))
      have e2' : Value.slice wa wn wc = .slice ao2 (o.cs ++ xs).length cap2 := e2
      injection e2' with q1 q2 q3
      subst q1 q3
      rw [← q2] at HCO
      rw [contains_cast] at HCO
      have HWN := hide2 hwn
      have hwl : wn ≤ 300000 := by omega
      clear hcdef hseq e1 e2 hr or1 hwn
      cases hct : (o.cs ++ xs).contains c with
      | true =>
        rw [hct] at HCO
        clear q2
        go_wp2_with fail
        refine HCO.out.mono ?_
        rintro e w3 ⟨rfl, rfl⟩
        go_wp2
        go_round
        case rel => exact ⟨k + 1, xs, by omega, by go_num, by omega, HR, HX, HB⟩
        case measure => simp [intOf]; omega
      | false =>
        rw [hct] at HCO
        have HN : Hid (c ∉ o.cs ++ xs) := hide2 (fun q => by rw [← List.contains_iff_mem] at q; rw [hct] at q; cases q)
        have HROW : Hid (wr.ownsRow w1.heap.size 3 1 (.slice wa wn wc) wn ((o.cs ++ xs).map nv)) := hide2 (by have := HR.out; unfold Hr at this; rw [← q2] at this; exact this)
        have hbw := HB.out.size
        clear hct q2
        go_wp2_with fail
        refine HCO.out.mono ?_
        rintro e w3 ⟨rfl, q3⟩
        subst q3
        have HNEW := hide2 (hcell_new w3 (.int .i64 (c : Int)) 3)
        go_wp2_with (at_builtin; refine Hid.out ?_)
        refine hide2 ?_
        refine wpList_append_own_at _ rfl _ _ 47 rfl w1.heap.size 3 i0 (.int .i64 0) 1 8 Tryd.underlying47 hi0 z0 z1 z2 rfl (by decide) (.slice wa wn wc) _ _ rfl (World.ownsRow.alloc HROW.out _) ⟨w3.heap.size, 0, none⟩ 1 1 [.int .i64 (c : Int)] rfl rfl HNEW.out (by simp [Value.oneCell']) (by unfold maxLen; omega) (by omega) (by simp; omega) ?_
        intro v' w4 hown4 hgrow4 hat4 hb4
        obtain ⟨g5, cap5, ev5⟩ := hrow_succ hown4
        have HX4 : Hid (Hr w4 w1.heap.size v' (o.cs ++ (xs ++ [c]))) := hide2 (by
          unfold Hr
          rw [← List.append_assoc, List.length_append, List.length_singleton, List.map_append, List.length_append, ← HWN.out]
          exact hown4)
        have HB4 : Hid (Below w1.heap.size w1 w4) := hide2 (by
          have f1 : Fr (fun j => w1.heap.size ≤ j) w3 w4 := ((Fr.refl (fun j => w1.heap.size ≤ j) w3).alloc (.cells #[.int .i64 (c : Int)] 3)).trans (G := fun j => w1.heap.size ≤ j) (Fr.grown hgrow4 (fun j e => (World.ownsRow.lt HROW.out j e).1)) (fun j e => .inl e)
          exact HB.out.trans (f1.to (fun j hj e => by omega) hbw))
        have HX2 : Hid (∀ x ∈ xs ++ [c], x ∈ s.sp ∧ x ∉ o.cs) := hide2 (fun x hx => by
          rcases List.mem_append.1 hx with q | q
          · exact HX.out x q
          · simp at q; subst q
            exact ⟨HCM.out, fun q => HN.out (List.mem_append.2 (.inl q))⟩)
        clear hown4 hgrow4 hat4 hb4 HNEW HROW HCO
        subst ev5
        go_frame
        go_wp2
        go_round
        case rel => exact ⟨k + 1, xs ++ [c], by omega, by go_num, by rw [List.length_append]; simp; omega, HX4, HX2, HB4⟩
        case measure => simp [intOf]; omega
    · have hke : k = s.sp.length := by omega
      have hcapw : wn ≤ wc ∧ wc ≤ maxLen := by
        rcases HR.out.2 with ⟨e, e0⟩ | ⟨g', cap', cur, e, _, _, q1, q2, _⟩
        · cases e; exact ⟨Nat.le_refl _, Nat.zero_le _⟩
        · cases e; rw [List.length_append, ← hwn] at q1; exact ⟨q1, q2⟩
      unfold maxLen at hcapw
      have hfin : ∀ x, x ≤ wn → x = min wn o.h → ∃ cv' v xs', Ending.returned (Value.slice wa x wc) = .returned v ∧ Hr wr 0 v ((o.cs ++ xs').take o.h) ∧ (∀ j, v.ownBlock = some j → ¬ K j ∧ ¬ B j) ∧ (∀ c ∈ xs', c ∈ s.sp ∧ c ∉ o.cs) ∧ Lm wr K lb d g gt tc (.slice so s.sp.length sc) T N m F s ∧ Ob wr B ob lb cv' o ∧ Fr B w wr := fun x hx1 hx2 => by
        have hlx : (o.cs ++ xs).length = wn := by rw [List.length_append]; omega
        refine ⟨_, _, xs, rfl, ?_, fun j hj => ?_, HX.out, hr, or1, HF1.out.trans (Fr.below (F := fun _ => False) HB.out) (fun j e => e.elim)⟩
        · rcases HR.out.2 with ⟨e, e0⟩ | ⟨g', cap', cur, e, hg', hcur, q1, q2, q3, q4⟩
          · injection e with y1 y2 y3
            subst y1 y3
            have : x = 0 := by omega
            subst this
            have e3 : o.cs ++ xs = [] := List.length_eq_zero_iff.1 (by omega)
            rw [e3]
            exact ⟨by simp, .inl ⟨rfl, by simp⟩⟩
          · injection e with y1 y2 y3
            subst y1 y3
            have hown : wr.ownsRow 0 3 1 (.slice (some ⟨g', 0, none⟩) wn wc) wn ((o.cs ++ xs).map nv) := by
              refine ⟨by simp; omega, .inr ⟨g', wc, cur, rfl, Nat.zero_le _, hcur, by rw [← hlx]; exact q1, q2, q3, ?_⟩⟩
              rw [hlx] at q4; exact q4
            have := row_short hown hx1
            unfold Hr
            have e5 : ((o.cs ++ xs).take o.h).length = x := by rw [List.length_take, hlx]; omega
            rw [e5, List.map_take]
            have e6 : ((o.cs ++ xs).map nv).take x = ((o.cs ++ xs).map nv).take o.h := by
              rcases Nat.le_total wn o.h with q | q
              · rw [show x = wn by omega, List.take_of_length_le (by simp; omega), List.take_of_length_le (by simp; omega)]
              · rw [show x = o.h by omega]
            rw [← e6]
            exact this
        · have hj2 : (Value.slice wa wn wc).ownBlock = some j := by
            cases wa with
            | none => simp [Value.ownBlock] at hj
            | some a => simpa [Value.ownBlock] using hj
          have hlo := (World.ownsRow.lt HR.out j hj2).1
          have := HF1.out.size
          exact ⟨fun q => by have := HKL.out j q; omega, fun q => by have := HBL.out j q; omega⟩
      have HFIN := hide2 hfin
      have HKE := hide2 hke
      have hwl : wn ≤ 300000 := by omega
      clear hfin hr or1 hke HR HX HB hwn
      have hc1 : min (wn : Int) (o.h : Int) ≤ (wc : Int) := by omega
      have hc2 : 0 ≤ min (wn : Int) (o.h : Int) := by omega
      obtain rfl := HKE.out
      go_wp2
      go_ret
      obtain ⟨cv', v, xs', q1, q2⟩ := HFIN.out (min (wn : Int) (o.h : Int)).toNat (by omega) (by omega)
      exact ⟨cv', v, q1, xs', q2⟩
end
end Go.Proofs.YtopihgdbfhiejaaDoor
