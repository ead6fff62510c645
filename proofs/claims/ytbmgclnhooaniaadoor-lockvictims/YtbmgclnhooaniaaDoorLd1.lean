/-
  Ld1: Which one of a cycle goes: the program's and the document's (LockVictims).
-/
import Derived.Test.YtbmgclnhooaniaaDoorLb3
import Derived.Test.YtbmgclnhooaniaaDoorLc1
set_option linter.unusedVariables false
set_option linter.unusedSimpArgs false
namespace Go.Proofs.YtbmgclnhooaniaaDoor
open Go.RowKit Go.Shelf

/-- The age of a worker. -/
def ag (l : List Int) (k : Nat) : Int := l.getD k 0

/-- What is told: none, or the one that goes. -/
def vic (cs : List Int) (l : List Int) (a : Int × Bool) : Prop :=
  (cs.all isW = true ∧ cs ≠ [] ∧ ∃ v : Nat, Lk.Vc (ag l) (wk cs) v ∧ a = ((v : Int), true)) ∨ ((cs = [] ∨ cs.all isW = false) ∧ a = (0, false))
theorem vic_only {cs l : List Int} {a b : Int × Bool} (h : vic cs l a) (k : vic cs l b) : a = b := by
  rcases h with ⟨h1, h2, v, hv, rfl⟩ | ⟨h1, rfl⟩ <;> rcases k with ⟨k1, k2, u, hu, rfl⟩ | ⟨k1, rfl⟩
  · rw [hv.only hu]
  · rcases k1 with q | q
    · exact absurd q h2
    · rw [h1] at q; cases q
  · rcases h1 with q | q
    · exact absurd q k2
    · rw [k1] at q; cases q
  · rfl

/-- Those that are in a set of workers, as they come. -/
theorem vc_set {f : Nat → Int} {l m : List Nat} {v : Nat} (h : Lk.Vc f l v) (hm : ∀ k, k ∈ l ↔ k ∈ m) : Lk.Vc f m v := ⟨(hm v).1 h.mem, fun k hk => h.top k ((hm k).2 hk)⟩

section
set_option maxHeartbeats 2000000
set_option maxRecDepth 100000
variable {w : World} {ao bo : Option Addr} {len cap len2 cap2 : Nat} {cs l : List Int}
theorem ageOf_any (h : Ints .i64 w ao len cap l) (k : Nat) :
    Calls Tryd.prog 46 #[.slice ao len cap, .int .i64 (k : Int)] w fun e w' => e = .returned (.int .i64 (ag l k)) ∧ w' = w := by
  have hle := h.2.1
  have hmx := h.2.2.1
  unfold maxLen at hmx
  have hxl := h.1
  by_cases hlt : k < len
  · obtain ⟨b, off, rfl, hb, hc⟩ := h.num (by omega)
    have c0 := hc k hlt
    have d1 : (k : Int) < (len : Int) := by omega
    have hag : l.getD k 0 = ag l k := rfl
    rw [hag] at c0
    clear hc
    generalize ag l k = x at *
    go_enter Tryd.func46, Tryd.ntmps46
    go_wp2
    go_ret
    exact ⟨rfl, rfl⟩
  · have d1 : ¬ (k : Int) < (len : Int) := by omega
    have d2 : (len : Int) ≤ (k : Int) := by omega
    have e : ag l k = 0 := by
      unfold ag
      rw [List.getD_eq_getElem?_getD, List.getElem?_eq_none (by omega)]; rfl
    rw [e]
    go_enter Tryd.func46, Tryd.ntmps46
    go_wp2
    go_ret
    exact ⟨rfl, rfl⟩

theorem rVictim_any (h : Ints .i64 w ao len cap cs) (h2 : Ints .i64 w bo len2 cap2 l) :
    Calls Tryd.prog 29 #[.slice ao len cap, .slice bo len2 cap2] w fun e w' => (∃ a : Int × Bool, vic cs l a ∧ e = .returned (.tuple #[.int .i64 a.1, .bool a.2])) ∧ w' = w := by
  have HW := hide2 (fun k w => rworker_any k w)
  have hle := h.2.1
  have hmx := h.2.2.1
  have hle2 := h2.2.1
  have hmx2 := h2.2.2.1
  unfold maxLen at hmx hmx2
  have hxl := h.1
  have hxl2 := h2.1
  have H := hide2 h
  have H2 := hide2 h2
  clear h h2
  go_enter Tryd.func29, Tryd.ntmps29
  go_wp2
  go_loopw [6, 7, 8] (fun b o i wr => ∃ k : Nat, k ≤ len ∧ i = .int .i64 (k : Int) ∧ Hid (wr = w) ∧ (cs.take k).all isW = true ∧ (k = 0 ∧ b = .int .i64 (-1) ∧ o = .int .i64 0 ∨ ∃ v : Nat, 0 < k ∧ v < 16 ∧ Hid (Lk.Vc (ag l) (wk (cs.take k)) v) ∧ b = .int .i64 (v : Int) ∧ o = .int .i64 (ag l v))) (fun _ _ i _ => len - (intOf i).toNat)
  case atStart => exact ⟨0, Nat.zero_le _, rfl, hide2 rfl, rfl, .inl ⟨rfl, rfl, rfl⟩⟩
  case round =>
    obtain ⟨k, hk, rfl, HWR, hall, hcase⟩ := hrel
    have hwr := HWR.out
    subst hwr
    have HALL := hide2 hall
    clear hall HWR
    by_cases hlt : k < len
    · obtain ⟨x, hx⟩ := some_at hxl hlt
      have HTK := hide2 (take_snoc hx)
      have HWX := hide2 (fun w => HW.out x w)
      obtain ⟨g, off, rfl, hg, hc⟩ := H.out.num (by omega)
      have c0 := hc k hlt
      have hgx : cs.getD k 0 = x := by simp [List.getD, hx]
      rw [hgx] at c0
      have d1 : (k : Int) < (len : Int) := by omega
      have HMEM := hide2 (List.mem_of_getElem? hx)
      clear hc hgx hx
      cases hxw : isW x with
      | false =>
        rw [hxw] at HWX
        have RET : Hid (vic cs l (0, false)) := hide2 (.inr ⟨.inr (by
          rw [List.all_eq_false]
          exact ⟨x, HMEM.out, by simp [hxw]⟩), rfl⟩)
        clear hcase
        go_wp2_with fail
        refine (HWX.out _).mono ?_
        rintro e w1 ⟨rfl, rfl⟩
        go_wp2
        go_ret2
        exact ⟨⟨_, RET.out, rfl⟩, rfl⟩
      | true =>
        rw [hxw] at HWX
        obtain ⟨n, rfl⟩ : ∃ n : Nat, x = (n : Int) := ⟨x.toNat, (isW_toNat hxw).1.symm⟩
        have hn : n < 16 := by have := isW_iff.1 hxw; omega
        have AG := hide2 (rfl : ag l n = ag l n)
        have NALL : Hid ((cs.take (k + 1)).all isW = true) := hide2 (by rw [HTK.out, List.all_append, HALL.out]; simp [hxw])
        have NWK : Hid (wk (cs.take (k + 1)) = wk (cs.take k) ++ [n]) := hide2 (by rw [HTK.out, wk_snoc, if_pos hxw]; rfl)
        have hn2 : (n : Int) < 16 := by omega
        have hage : ((n : Int) < (len2 : Int) ∧ ∃ g2 off2, bo = some ⟨g2, off2, none⟩ ∧ wr.cell? ⟨g2, off2 + n, none⟩ = some (.int .i64 (ag l n))) ∨ (¬ (n : Int) < (len2 : Int) ∧ ag l n = 0) := by
          by_cases q : n < len2
          · obtain ⟨g2, off2, e, _, hc2⟩ := H2.out.num (by omega)
            exact .inl ⟨by omega, g2, off2, e, hc2 n q⟩
          · refine .inr ⟨by omega, ?_⟩
            unfold ag
            rw [List.getD_eq_getElem?_getD, List.getElem?_eq_none (by omega)]; rfl
        rcases hcase with ⟨rfl, rfl, rfl⟩ | ⟨v, hk0, hv, HV, rfl, rfl⟩
        · have NV : Hid (Lk.Vc (ag l) (wk (cs.take (0 + 1))) n) := hide2 (by rw [NWK.out]; exact Lk.Vc.one _ _)
          clear NWK
          have c0' : wr.cell? ⟨g, off, none⟩ = some (.int .i64 (n : Int)) := by simpa using c0
          clear c0
          rcases hage with ⟨ha1, g2, off2, rfl, c1⟩ | ⟨ha1, ha2⟩
          · generalize ea : ag l n = A at *
            have EA := hide2 ea
            clear ea
            go_wp2_with fail
            refine (HWX.out _).mono ?_
            rintro e w1 ⟨rfl, rfl⟩
            go_wp2
            go_roundw
            case rel => exact ⟨0 + 1, by omega, by go_num, hide2 (by first | rfl | trivial), NALL.out, .inr ⟨n, by omega, by omega, NV, rfl, by rw [EA.out]⟩⟩
            case measure => simp [intOf]; omega
          · have EA := hide2 ha2
            go_wp2_with fail
            refine (HWX.out _).mono ?_
            rintro e w1 ⟨rfl, rfl⟩
            go_wp2
            go_roundw
            case rel => exact ⟨0 + 1, by omega, by go_num, hide2 (by first | rfl | trivial), NALL.out, .inr ⟨n, by omega, by omega, NV, rfl, by rw [EA.out]⟩⟩
            case measure => simp [intOf]; omega
        · have hv0 : ¬ (v : Int) < 0 := by omega
          have hv1 : ((v : Int) < 0) = False := by simp
          rcases Int.lt_trichotomy (ag l v) (ag l n) with q | q | q
          · have NV : Hid (Lk.Vc (ag l) (wk (cs.take (k + 1))) n) := hide2 (by rw [NWK.out]; exact HV.out.new (.inl q))
            generalize eo : ag l v = O at *
            have EO := hide2 eo
            clear eo HV NWK
            rcases hage with ⟨ha1, g2, off2, rfl, c1⟩ | ⟨ha1, ha2⟩
            · generalize ea : ag l n = A at *
              have EA := hide2 ea
              clear ea
              go_wp2_with fail
              refine (HWX.out _).mono ?_
              rintro e w1 ⟨rfl, rfl⟩
              go_wp2
              go_roundw
              case rel => exact ⟨k + 1, by omega, by go_num, hide2 (by first | rfl | trivial), NALL.out, .inr ⟨n, by omega, by omega, NV, rfl, by first | (rw [EA.out]; done) | (rw [EA.out, q]; done) | (rw [EA.out, ← q]; done)⟩⟩
              case measure => simp [intOf]; omega
            · rw [ha2] at q
              have EA := hide2 ha2
              go_wp2_with fail
              refine (HWX.out _).mono ?_
              rintro e w1 ⟨rfl, rfl⟩
              go_wp2
              go_roundw
              case rel => exact ⟨k + 1, by omega, by go_num, hide2 (by first | rfl | trivial), NALL.out, .inr ⟨n, by omega, by omega, NV, rfl, by first | (rw [EA.out]; done) | (rw [EA.out, q]; done) | (rw [EA.out, ← q]; done)⟩⟩
              case measure => simp [intOf]; omega
          · by_cases r : n < v
            · have NV : Hid (Lk.Vc (ag l) (wk (cs.take (k + 1))) n) := hide2 (by rw [NWK.out]; exact HV.out.new (.inr ⟨q.symm, r⟩))
              have r2 : (n : Int) < (v : Int) := by omega
              generalize eo : ag l v = O at *
              have EO := hide2 eo
              clear eo HV NWK
              rcases hage with ⟨ha1, g2, off2, rfl, c1⟩ | ⟨ha1, ha2⟩
              · generalize ea : ag l n = A at *
                have EA := hide2 ea
                clear ea
                go_wp2_with fail
                refine (HWX.out _).mono ?_
                rintro e w1 ⟨rfl, rfl⟩
                go_wp2
                go_roundw
                case rel => exact ⟨k + 1, by omega, by go_num, hide2 (by first | rfl | trivial), NALL.out, .inr ⟨n, by omega, by omega, NV, rfl, by first | (rw [EA.out]; done) | (rw [EA.out, q]; done) | (rw [EA.out, ← q]; done)⟩⟩
                case measure => simp [intOf]; omega
              · rw [ha2] at q
                have EA := hide2 ha2
                go_wp2_with fail
                refine (HWX.out _).mono ?_
                rintro e w1 ⟨rfl, rfl⟩
                go_wp2
                go_roundw
                case rel => exact ⟨k + 1, by omega, by go_num, hide2 (by first | rfl | trivial), NALL.out, .inr ⟨n, by omega, by omega, NV, rfl, by first | (rw [EA.out]; done) | (rw [EA.out, q]; done) | (rw [EA.out, ← q]; done)⟩⟩
                case measure => simp [intOf]; omega
            · have NV : Hid (Lk.Vc (ag l) (wk (cs.take (k + 1))) v) := hide2 (by rw [NWK.out]; exact HV.out.old (by omega))
              have r2 : ¬ (n : Int) < (v : Int) := by omega
              generalize eo : ag l v = O at *
              have EO := hide2 eo
              clear eo HV NWK
              rcases hage with ⟨ha1, g2, off2, rfl, c1⟩ | ⟨ha1, ha2⟩
              · generalize ea : ag l n = A at *
                have EA := hide2 ea
                clear ea
                go_wp2_with fail
                refine (HWX.out _).mono ?_
                rintro e w1 ⟨rfl, rfl⟩
                go_wp2
                go_roundw
                case rel => exact ⟨k + 1, by omega, by go_num, hide2 (by first | rfl | trivial), NALL.out, .inr ⟨v, by omega, by omega, NV, rfl, by first | (rw [EO.out]; done) | (rw [EO.out, q]; done) | (rw [EO.out, ← q]; done)⟩⟩
                case measure => simp [intOf]; omega
              · rw [ha2] at q
                have EA := hide2 ha2
                go_wp2_with fail
                refine (HWX.out _).mono ?_
                rintro e w1 ⟨rfl, rfl⟩
                go_wp2
                go_roundw
                case rel => exact ⟨k + 1, by omega, by go_num, hide2 (by first | rfl | trivial), NALL.out, .inr ⟨v, by omega, by omega, NV, rfl, by first | (rw [EO.out]; done) | (rw [EO.out, q]; done) | (rw [EO.out, ← q]; done)⟩⟩
                case measure => simp [intOf]; omega
          · have NV : Hid (Lk.Vc (ag l) (wk (cs.take (k + 1))) v) := hide2 (by rw [NWK.out]; exact HV.out.old (by omega))
            have q2 : ¬ ag l v < ag l n := by omega
            have q3 : ¬ ag l n = ag l v := by omega
            generalize eo : ag l v = O at *
            have EO := hide2 eo
            clear eo HV NWK
            rcases hage with ⟨ha1, g2, off2, rfl, c1⟩ | ⟨ha1, ha2⟩
            · generalize ea : ag l n = A at *
              have EA := hide2 ea
              clear ea
              go_wp2_with fail
              refine (HWX.out _).mono ?_
              rintro e w1 ⟨rfl, rfl⟩
              go_wp2
              go_roundw
              case rel => exact ⟨k + 1, by omega, by go_num, hide2 (by first | rfl | trivial), NALL.out, .inr ⟨v, by omega, by omega, NV, rfl, by first | (rw [EO.out]; done) | (rw [EO.out, q]; done) | (rw [EO.out, ← q]; done)⟩⟩
              case measure => simp [intOf]; omega
            · rw [ha2] at q
              have EA := hide2 ha2
              go_wp2_with fail
              refine (HWX.out _).mono ?_
              rintro e w1 ⟨rfl, rfl⟩
              go_wp2
              go_roundw
              case rel => exact ⟨k + 1, by omega, by go_num, hide2 (by first | rfl | trivial), NALL.out, .inr ⟨v, by omega, by omega, NV, rfl, by first | (rw [EO.out]; done) | (rw [EO.out, q]; done) | (rw [EO.out, ← q]; done)⟩⟩
              case measure => simp [intOf]; omega
    · have e1 : k = len := by omega
      subst e1
      have ec : cs.take k = cs := List.take_of_length_le (by omega)
      rw [ec] at HALL hcase
      rcases hcase with ⟨rfl, rfl, rfl⟩ | ⟨v, hk0, hv, HV, rfl, rfl⟩
      · have RET : Hid (vic cs l (0, false)) := hide2 (.inr ⟨.inl (List.length_eq_zero_iff.1 (by omega)), rfl⟩)
        go_wp2
        go_ret2
        exact ⟨⟨_, RET.out, rfl⟩, rfl⟩
      · have RET : Hid (vic cs l ((v : Int), true)) := hide2 (.inl ⟨HALL.out, fun e => by rw [e] at hxl; simp at hxl; omega, v, HV.out, rfl⟩)
        have hv2 : (0 : Int) ≤ (v : Int) := by omega
        have hmx : max (v : Int) 0 = (v : Int) := by omega
        clear HV
        go_wp2
        go_ret2
        exact ⟨⟨_, RET.out, rfl⟩, rfl⟩
end
end Go.Proofs.YtbmgclnhooaniaaDoor
