/-
  Lh2: The document's Cycle.
-/
import Derived.Test.YtafbchjmjfpilaaDoorLh1
set_option linter.unusedVariables false
set_option linter.unusedSimpArgs false
namespace Go.Proofs.YtafbchjmjfpilaaDoor
open Go.RowKit Go.Shelf
attribute [local go_sem] Oper.semAt_some

section
set_option maxHeartbeats 8000000
set_option maxRecDepth 100000
variable {w : World} {b : Nat} {F : Nat → Bool}

/-- What the document's Cycle answers. -/
def RcR (E : Nat → Nat → Bool) (t : Nat) (w' : World) (base : Nat) (e : Ending) : Prop :=
  (Lk.cyc E t = none ∧ e = .returned (.tuple #[.slice none 0 0, .bool false])) ∨ ∃ p v, Lk.cyc E t = some p ∧ e = .returned (.tuple #[v, .bool true]) ∧ Hr w' base v p

theorem rcycle_out {k : Int} (hk : isW k = false) (g : Addr) (w : World) : Calls Tryd.prog 10 #[.pointer (some g), .int .i64 k] w fun e w' => e = .returned (.tuple #[.slice none 0 0, .bool false]) ∧ w' = w := by
  have HW := hide2 (fun w => rworker_any k w)
  rw [hk] at HW
  clear hk
  go_enter Tryd.func10, Tryd.ntmps10
  go_wp2_with fail
  refine (HW.out _).mono ?_
  rintro e w1 ⟨rfl, rfl⟩
  go_wp2
  go_ret2
  exact ⟨rfl, rfl⟩

/-- While the cycle is told: the array of distances, the graph. -/
structure Cs (w wr : World) (g b : Nat) (F : Nat → Bool) (D : Nat → Nat) : Prop where
  ds : Ds wr g D
  gr : Gr wr b F
  bl : Below w.heap.size w wr
  hg : w.heap.size ≤ g
theorem Cs.cell {wr : World} {g : Nat} {D : Nat → Nat} (h : Cs w wr g b F D) {i : Nat} (hi : i < 16) : wr.cell? ⟨g, i, none⟩ = some (.int .i64 (D i : Nat)) := World.rowIs.cell h.ds hi
theorem Cs.bool {wr : World} {g : Nat} {D : Nat → Nat} (h : Cs w wr g b F D) {i k : Nat} (hi : i < 16) (hk : k < 16) : wr.cell? ⟨b, i * 16 + k, none⟩ = some (.bool (dE F i k)) := World.rowIs.cell h.gr (by omega)

theorem Hr.base {w : World} {B B' : Nat} {v : Value} {l : List Nat} (h : Hr w B v l) (hb : B' ≤ B) : Hr w B' v l := by
  refine ⟨h.1, ?_⟩
  rcases h.2 with q | ⟨g, cap, cur, e, hbs, r⟩
  · exact .inl q
  · exact .inr ⟨g, cap, cur, e, Nat.le_trans hb hbs, r⟩
theorem hr_one (w : World) (t : Nat) : Hr (w.alloc (.cells #[.int .i64 (t : Nat)] 3)) w.heap.size (.slice (some ⟨w.heap.size, 0, none⟩) 1 1) [t] :=
  ⟨rfl, .inr ⟨w.heap.size, 1, #[.int .i64 (t : Nat)], rfl, Nat.le_refl _, heap_alloc_new _ _, Nat.le_refl _, by unfold maxLen; omega, rfl, rfl⟩⟩

theorem rcycle_ok (hG : Gr w b F) {t : Nat} (ht : t < 16) :
    Calls Tryd.prog 10 #[.pointer (some ⟨b, 0, none⟩), .int .i64 (t : Nat)] w fun e w' => RcR (dE F) t w' w.heap.size e ∧ Below w.heap.size w w' := by
  obtain ⟨i0, hi0, z0, z1, z2⟩ := info_parts info3
  have HW := hide2 (fun w => rworker_any (t : Int) w)
  rw [isW_nat ht] at HW
  have HFAR := hide2 (far_any hG ht)
  have HG := hide2 hG
  have hbl := World.rowIs.lt hG
  clear hG
  go_enter Tryd.func10, Tryd.ntmps10
  go_wp2_with fail
  refine (HW.out _).mono ?_
  rintro e w1 ⟨rfl, hw1⟩
  subst hw1
  clear HW
  go_wp2_with fail
  refine HFAR.out.mono ?_
  rintro e w2 ⟨⟨D, hfar, rfl⟩, hw2⟩
  have HB2 := hide2 hw2
  have HF := hide2 hfar
  obtain ⟨W3, hW3⟩ : ∃ W3, W3 = (w2.alloc (.cells #[.int .i64 0, .int .i64 0, .int .i64 0, .int .i64 0, .int .i64 0, .int .i64 0, .int .i64 0, .int .i64 0, .int .i64 0, .int .i64 0, .int .i64 0, .int .i64 0, .int .i64 0, .int .i64 0, .int .i64 0, .int .i64 0] 55)).setRow w2.heap.size (dsA D) := ⟨_, rfl⟩
  have hz : (w2.alloc (.cells #[.int .i64 0, .int .i64 0, .int .i64 0, .int .i64 0, .int .i64 0, .int .i64 0, .int .i64 0, .int .i64 0, .int .i64 0, .int .i64 0, .int .i64 0, .int .i64 0, .int .i64 0, .int .i64 0, .int .i64 0, .int .i64 0] 55)).heap[w2.heap.size]? = some (.cells #[.int .i64 0, .int .i64 0, .int .i64 0, .int .i64 0, .int .i64 0, .int .i64 0, .int .i64 0, .int .i64 0, .int .i64 0, .int .i64 0, .int .i64 0, .int .i64 0, .int .i64 0, .int .i64 0, .int .i64 0, .int .i64 0] 55 (0, 0)) := heap_alloc_new _ _
  have HZ := hide2 hz
  have hCs : Cs w1 W3 w2.heap.size b F D := by
    refine ⟨?_, ?_, ?_, hw2.size⟩
    · rw [hW3]
      exact ⟨dsA D, setRow_heap _ _ _ _ _ _ hz, rfl, dsA_at D⟩
    · have := hw2.size
      have h2 : (w2.alloc (.cells #[.int .i64 0, .int .i64 0, .int .i64 0, .int .i64 0, .int .i64 0, .int .i64 0, .int .i64 0, .int .i64 0, .int .i64 0, .int .i64 0, .int .i64 0, .int .i64 0, .int .i64 0, .int .i64 0, .int .i64 0, .int .i64 0] 55)).heap[b]? = w1.heap[b]? := (Below.heap_alloc _ _ _ (by omega)).trans (hw2.block b hbl)
      rw [hW3]
      exact HG.out.of_block ((setRow_other _ _ _ _ (by omega)).trans h2)
    · rw [hW3]
      exact (hw2.alloc hw2.size _).trans ⟨rfl, rfl, rfl, by simp, fun k hk => setRow_other _ _ _ _ (by have := hw2.size; omega)⟩
  have HC := hide2 hCs
  have HW3 := hide2 hW3
  clear hCs hz hW3 hw2 hfar HFAR
  have c0 := HC.out.cell ht
  have hts : (t : Int) < 16 := by omega
  rcases Lk.cyc_cases (dE F) ht with ⟨n, hn, hl, hcyc⟩ | ⟨hno, hcyc⟩
  · have hD := (HF.out.dist (by omega) ht).1 n hl
    rw [hD] at c0
    have HL := hide2 hl
    have HCY := hide2 hcyc
    have hgl : w2.heap.size < W3.heap.size := World.rowIs.lt HC.out.ds
    have hbl3 : b < W3.heap.size := World.rowIs.lt HC.out.gr
    have hB3 := hide2 HC.out.bl
    have HR0 := hide2 (hr_one W3 t)
    have n1 : ¬ (99 : Int) ≤ (((n + 1 : Nat)) : Int) := by omega
    have hDt := hide2 hD
    clear hl hcyc hD
    go_wp2_with (first
      | (refine wpList_store_row rfl 55 (Operand.tmp 7) (Operand.tmp 17) rfl w2.heap.size (dsA D) rfl rfl 55 #[.int .i64 0, .int .i64 0, .int .i64 0, .int .i64 0, .int .i64 0, .int .i64 0, .int .i64 0, .int .i64 0, .int .i64 0, .int .i64 0, .int .i64 0, .int .i64 0, .int .i64 0, .int .i64 0, .int .i64 0, .int .i64 0] ?_ ?_ rfl (dsA_one D) ?_
         · exact HZ.out
         · kernel_rfl
         rw [← HW3.out]))
    go_wp2_with fail
    clear HZ HW3 HB2 c0
    go_loopw [8, 9] (fun v a wr => ∃ (o : List Nat) (x m : Nat), a = .int .i64 (x : Nat) ∧ x < 16 ∧ Hid (Hr wr W3.heap.size v o) ∧ Hid (Below W3.heap.size W3 wr) ∧ Hid (o ++ Lk.bst (dE F) t m x = t :: Lk.bst (dE F) t n t) ∧ Hid (Lk.lst (dE F) t m x)) (fun _ a _ => D (intOf a).toNat)
    case atStart => exact ⟨[t], t, n, rfl, ht, HR0, hide2 (below1 _ _), hide2 rfl, HL⟩
    case round =>
      obtain ⟨o, x, m, rfl, hx, HR, BW, HO, HLX⟩ := hrel
      clear HR0 HL
      have hDx := (HF.out.dist (by omega) hx).1 m HLX.out
      have hm15 := HLX.out.le15 hx
      obtain ⟨ao, cv, rfl, hcv⟩ := HR.out.form
      have hol : o.length + m = n + 1 := by have := congrArg List.length HO.out; simpa [Lk.bst_len] using this
      have hcell : ∀ i, i < 16 → wr.cell? ⟨w2.heap.size, i, none⟩ = some (.int .i64 (D i : Nat)) := fun i hi => (BW.out.cell (p := ⟨w2.heap.size, i, none⟩) hgl).trans (HC.out.cell hi)
      have hbool : ∀ i k, i < 16 → k < 16 → wr.cell? ⟨b, i * 16 + k, none⟩ = some (.bool (dE F i k)) := fun i k hi hk => (BW.out.cell (p := ⟨b, i * 16 + k, none⟩) hbl3).trans (HC.out.bool hi hk)
      have cx := hcell x hx
      rw [hDx] at cx
      have hxs : (x : Int) < 16 := by omega
      have HCELL := hide2 hcell
      have HBOOL := hide2 hbool
      clear hcell hbool
      cases m with
      | zero =>
        have RET : Hid (Hr wr w1.heap.size (.slice ao o.length cv) (t :: Lk.bst (dE F) t n t)) := hide2 (by
          have e := HO.out
          rw [show Lk.bst (dE F) t 0 x = [] from rfl, List.append_nil] at e
          rw [← e]
          exact HR.out.base hB3.out.size)
        have n2 : ¬ (1 : Int) < ((0 + 1 : Nat) : Int) := by omega
        clear HCELL HBOOL HR HO
        go_wp2
        go_ret2
        exact ⟨.inr ⟨_, _, HCY.out, rfl, RET.out⟩, hB3.out.trans (BW.out.mono hB3.out.size)⟩
      | succ m =>
        have N := Lk.nxt_is HLX.out.is
        have n2 : (1 : Int) < ((m + 1 + 1 : Nat) : Int) := by omega
        have HN := hide2 N
        have hNlt := N.lt
        have HSEL : Hid (∀ k, k < 16 → ((dE F x k = true ∧ k ≠ t ∧ D k = m + 1) ↔ Lk.may (dE F) t m x k = true)) := hide2 (fun k hk => by
          have := HF.out.sel (by omega) HLX.out hx hk
          rw [hDx] at this
          exact this)
        have hmay := Lk.may_iff.1 N.may
        have HLN := hide2 (HLX.out.step N.lt hmay.1 hmay.2.1 hmay.2.2)
        have HON : Hid ((o ++ [Lk.nxt (dE F) t m x]) ++ Lk.bst (dE F) t m (Lk.nxt (dE F) t m x) = t :: Lk.bst (dE F) t n t) := hide2 (by
          rw [← HO.out, List.append_assoc]
          rfl)
        have HDN : Hid (D (Lk.nxt (dE F) t m x) = m + 1) := hide2 ((HF.out.dist (by omega) N.lt).1 m HLN.out)
        obtain ⟨NV, hNV⟩ : ∃ NV, NV = Lk.nxt (dE F) t m x := ⟨_, rfl⟩
        have HNO : Hid (∀ j, j < NV → Lk.may (dE F) t m x j = false) := hide2 (by rw [hNV]; exact N.no)
        have HNM : Hid (Lk.may (dE F) t m x NV = true) := hide2 (by rw [hNV]; exact N.may)
        rw [← hNV] at HLN HON HDN hNlt
        clear N HN hNV hmay HO
        obtain ⟨dx, hdx⟩ : ∃ dx, dx = m + 1 + 1 := ⟨_, rfl⟩
        rw [← hdx] at cx n2
        have HDX := hide2 hdx
        have hdx9 : (dx : Int) ≤ 100 := by omega
        clear hdx
        have HROW := hide2 (show wr.ownsRow W3.heap.size 3 1 (.slice ao o.length cv) o.length (o.map nv) from HR.out)
        clear HR
        have hWs := BW.out.size
        obtain ⟨U, hU⟩ : ∃ U, U = wr := ⟨_, rfl⟩
        subst hU
        go_wp2_with fail
        go_loopw [10] (fun z wr => ∃ y : Nat, y ≤ NV ∧ z = .int .i64 (y : Nat) ∧ Hid (∃ q, wr = U.drewN q)) (fun z _ => 16 - (intOf z).toNat)
        case atStart => exact ⟨0, Nat.zero_le _, rfl, hide2 ⟨0, rfl⟩⟩
        case round =>
          obtain ⟨y, hy, rfl, HQ⟩ := hrel
          obtain ⟨q, hq⟩ := HQ.out
          subst hq
          clear HQ
          have hy16 : y < 16 := by omega
          have q1 := HBOOL.out x y hx hy16
          have q2 := HCELL.out y hy16
          have hsel := HSEL.out y hy16
          have hys : (y : Int) < 16 := by omega
          by_cases hyl : y < NV
          · have h15 : (y : Int) < 15 := by omega
            have h15d : decide ((y : Int) < 15) = true := decide_eq_true h15
            have hno := HNO.out y hyl
            rw [hno] at hsel
            have hns : ¬ (dE F x y = true ∧ y ≠ t ∧ D y = m + 1) := fun r => by have := hsel.1 r; cases this
            clear hsel hno HSEL HNO HNM HCELL HBOOL HLN HON
            generalize D y = dy at *
            cases hE : dE F x y with
            | false =>
              rw [hE] at q1
              clear hns hE
              go_wp2_with fail
              go_quiet (fail)
              go_wp2_with fail
              go_roundw
              case rel => exact ⟨y + 1, by omega, by go_num, hide2 ⟨_, by first | rfl | exact World.drewN_drewN _ _ _⟩⟩
              case measure => simp [intOf]; omega
            | true =>
              rw [hE] at q1
              by_cases hyt : y = t
              · have e1 : (t : Int) = (y : Int) := by omega
                have e1b : ((y : Int) != (t : Int)) = false := by rw [e1]; exact bne_self_eq_false _
                have HYT := hide2 hyt
                clear hyt e1
                clear hns hE
                go_wp2_with fail
                go_quiet (fail)
                go_wp2_with fail
                go_roundw
                case rel => exact ⟨y + 1, by omega, by go_num, hide2 ⟨_, by first | rfl | exact World.drewN_drewN _ _ _⟩⟩
                case measure => simp [intOf]; omega
              · have e1 : ¬ (y : Int) = (t : Int) := by omega
                have e1d : decide ((y : Int) = (t : Int)) = false := decide_eq_false e1
                have e1b : ((y : Int) != (t : Int)) = true := bne_iff_ne.2 e1
                have hdd : ¬ dy = m + 1 := fun r => hns ⟨hE, hyt, r⟩
                have e2 : ¬ (dy : Int) = (dx : Int) - 1 := by have := HDX.out; omega
                have e2d : decide ((dy : Int) = (dx : Int) - 1) = false := decide_eq_false e2
                have e2b : ((dy : Int) == (dx : Int) - 1) = false := beq_eq_false_iff_ne.2 e2
                clear hns hE
                go_wp2_with fail
                go_quiet (fail)
                go_wp2_with fail
                go_roundw
                case rel => exact ⟨y + 1, by omega, by go_num, hide2 ⟨_, by first | rfl | exact World.drewN_drewN _ _ _⟩⟩
                case measure => simp [intOf]; omega
          · have eyn : y = NV := by omega
            subst eyn
            obtain ⟨hE, hyt, hdy⟩ := hsel.2 HNM.out
            rw [hE] at q1
            rw [hdy] at q2
            have e1 : ¬ (y : Int) = (t : Int) := by omega
            have e1d : decide ((y : Int) = (t : Int)) = false := decide_eq_false e1
            have e1b : ((y : Int) != (t : Int)) = true := bne_iff_ne.2 e1
            obtain ⟨dy, hdy2⟩ : ∃ dy, dy = m + 1 := ⟨_, rfl⟩
            rw [← hdy2] at q2
            have e2 : (dy : Int) = (dx : Int) - 1 := by have := HDX.out; omega
            have e2d : decide ((dy : Int) = (dx : Int) - 1) = true := decide_eq_true e2
            have e2b : ((dy : Int) == (dx : Int) - 1) = true := beq_iff_eq.2 e2
            have hrm := HDN.out
            clear hsel HSEL HNO HNM HCELL HBOOL hE hdy2 hdy
            by_cases h15 : y < 15
            · have h15s : (y : Int) < 15 := by omega
              have h15d : decide ((y : Int) < 15) = true := decide_eq_true h15s
              have HROWq : Hid (∀ z, (U.drewN z).ownsRow W3.heap.size 3 1 (.slice ao o.length cv) o.length (o.map nv)) := hide2 (fun z => HROW.out)
              have HNEW := hide2 (fun z => hcell_new (U.drewN z) (.int .i64 (y : Nat)) 3)
              go_wp2_with fail
              go_quiet (fail)
              go_wp2_with (at_builtin; refine Hid.out ?_)
              refine hide2 ?_
              refine wpList_append_own_at _ rfl _ _ 33 rfl W3.heap.size 3 i0 (.int .i64 0) 1 8 Tryd.underlying33 hi0 z0 z1 z2 rfl (by decide) (.slice ao o.length cv) _ _ rfl (World.ownsRow.alloc (HROWq.out (q + nq)) _) ⟨U.heap.size, 0, none⟩ 1 1 [.int .i64 (y : Nat)] rfl rfl (HNEW.out (q + nq)) (by simp [Value.oneCell']) (by unfold maxLen; omega) (by omega) (by simp; omega) ?_
              intro v' w4 hown4 hgrow4 hat4 hb4
              have HH4 : Hid (Hr w4 W3.heap.size v' (o ++ [y])) := hide2 (by
                unfold Hr
                rw [List.length_append, List.length_singleton, List.map_append]
                exact hown4)
              have BW4 : Hid (Below W3.heap.size W3 w4) := hide2 (by
                refine Below.grown (row := _) ?_ hgrow4 ?_ (fun j e => (World.ownsRow.lt HROW.out j e).1)
                · exact (below_drewN BW.out _).alloc hWs _
                · simp; omega)
              obtain ⟨av, cv2, ev, _⟩ := HH4.out.form
              clear hown4 hgrow4 hat4 hb4 HROW HROWq HNEW
              subst ev
              go_frame
              go_wp2_with fail
              go_roundw
              case rel => exact ⟨o ++ [y], y, m, rfl, hNlt, HH4, BW4, HON, HLN⟩
              case measure => simp [intOf]; omega
            · have h15s : ¬ (y : Int) < 15 := by omega
              have h15d : decide ((y : Int) < 15) = false := decide_eq_false h15s
              have HROWq : Hid (∀ z, (U.drewN z).ownsRow W3.heap.size 3 1 (.slice ao o.length cv) o.length (o.map nv)) := hide2 (fun z => HROW.out)
              have HNEW := hide2 (fun z => hcell_new (U.drewN z) (.int .i64 (y : Nat)) 3)
              go_wp2_with fail
              go_quiet (fail)
              go_wp2_with (at_builtin; refine Hid.out ?_)
              refine hide2 ?_
              refine wpList_append_own_at _ rfl _ _ 33 rfl W3.heap.size 3 i0 (.int .i64 0) 1 8 Tryd.underlying33 hi0 z0 z1 z2 rfl (by decide) (.slice ao o.length cv) _ _ rfl (World.ownsRow.alloc (HROWq.out (q + nq)) _) ⟨U.heap.size, 0, none⟩ 1 1 [.int .i64 (y : Nat)] rfl rfl (HNEW.out (q + nq)) (by simp [Value.oneCell']) (by unfold maxLen; omega) (by omega) (by simp; omega) ?_
              intro v' w4 hown4 hgrow4 hat4 hb4
              have HH4 : Hid (Hr w4 W3.heap.size v' (o ++ [y])) := hide2 (by
                unfold Hr
                rw [List.length_append, List.length_singleton, List.map_append]
                exact hown4)
              have BW4 : Hid (Below W3.heap.size W3 w4) := hide2 (by
                refine Below.grown (row := _) ?_ hgrow4 ?_ (fun j e => (World.ownsRow.lt HROW.out j e).1)
                · exact (below_drewN BW.out _).alloc hWs _
                · simp; omega)
              obtain ⟨av, cv2, ev, _⟩ := HH4.out.form
              clear hown4 hgrow4 hat4 hb4 HROW HROWq HNEW
              subst ev
              go_frame
              go_wp2_with fail
              go_roundw
              case rel => exact ⟨o ++ [y], y, m, rfl, hNlt, HH4, BW4, HON, HLN⟩
              case measure => simp [intOf]; omega
  · have hD := (HF.out.dist (by omega) ht).2 hno
    rw [hD] at c0
    have n1 : (99 : Int) ≤ ((99 : Nat) : Int) := by omega
    have HB3 := hide2 HC.out.bl
    have HCY := hide2 hcyc
    clear hcyc hno
    go_wp2_with (first
      | (refine wpList_store_row rfl 55 (Operand.tmp 7) (Operand.tmp 17) rfl w2.heap.size (dsA D) rfl rfl 55 #[.int .i64 0, .int .i64 0, .int .i64 0, .int .i64 0, .int .i64 0, .int .i64 0, .int .i64 0, .int .i64 0, .int .i64 0, .int .i64 0, .int .i64 0, .int .i64 0, .int .i64 0, .int .i64 0, .int .i64 0, .int .i64 0] ?_ ?_ rfl (dsA_one D) ?_
         · exact HZ.out
         · kernel_rfl
         rw [← HW3.out]))
    go_wp2
    go_ret2
    exact ⟨.inl ⟨HCY.out, rfl⟩, HB3.out⟩
end
end Go.Proofs.YtafbchjmjfpilaaDoor
