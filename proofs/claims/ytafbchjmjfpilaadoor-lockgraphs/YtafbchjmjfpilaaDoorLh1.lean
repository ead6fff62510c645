/-
  Lh1: How far each is from one: the document's far.
-/
import Derived.Test.YtafbchjmjfpilaaDoorLg4
import Derived.Laws.Tables
import Derived.Laws.Rows
set_option linter.unusedVariables false
set_option linter.unusedSimpArgs false
namespace Go.Proofs.YtafbchjmjfpilaaDoor
open Go.RowKit Go.Shelf
attribute [local go_sem] Oper.semAt_some

section
set_option maxHeartbeats 8000000
set_option maxRecDepth 100000
variable {w : World} {b : Nat} {F : Nat → Bool}

/-- Sixteen distances in a block. -/
def Ds (w : World) (g : Nat) (D : Nat → Nat) : Prop := w.rowIs g 55 16 (fun j => .int .i64 (D j : Nat))
def dE (F : Nat → Bool) (i k : Nat) : Bool := F (i * 16 + k)
def dsA (D : Nat → Nat) : Array Value := #[.int .i64 (D 0 : Nat), .int .i64 (D 1 : Nat), .int .i64 (D 2 : Nat), .int .i64 (D 3 : Nat), .int .i64 (D 4 : Nat), .int .i64 (D 5 : Nat), .int .i64 (D 6 : Nat), .int .i64 (D 7 : Nat), .int .i64 (D 8 : Nat), .int .i64 (D 9 : Nat), .int .i64 (D 10 : Nat), .int .i64 (D 11 : Nat), .int .i64 (D 12 : Nat), .int .i64 (D 13 : Nat), .int .i64 (D 14 : Nat), .int .i64 (D 15 : Nat)]
def d0 (E : Nat → Nat → Bool) (t i j : Nat) : Nat := if j < i then (if E j t then 1 else 99) else 0

theorem Ds.set {g : Nat} {D D' : Nat → Nat} (h : Ds w g D) {i v : Nat} (hD : ∀ j, j < 16 → D' j = if j = i then v else D j) : Ds (w.setCell ⟨g, i, none⟩ (.int .i64 (v : Nat))) g D' := by
  refine (World.rowIs.set h i _).congr (fun j hj => ?_)
  rw [hD j hj]
  split <;> rfl

theorem dsA_size (D : Nat → Nat) : (dsA D).size = 16 := rfl
theorem dsA_at (D : Nat → Nat) : ∀ i, i < 16 → (dsA D)[i]? = some (.int .i64 (D i : Nat)) := fun i hi => by
  have : i = 0 ∨ i = 1 ∨ i = 2 ∨ i = 3 ∨ i = 4 ∨ i = 5 ∨ i = 6 ∨ i = 7 ∨ i = 8 ∨ i = 9 ∨ i = 10 ∨ i = 11 ∨ i = 12 ∨ i = 13 ∨ i = 14 ∨ i = 15 := by omega
  rcases this with rfl | rfl | rfl | rfl | rfl | rfl | rfl | rfl | rfl | rfl | rfl | rfl | rfl | rfl | rfl | rfl <;> rfl
theorem Ds.blk {g : Nat} {D : Nat → Nat} (h : Ds w g D) : w.heap[g]? = some (.cells (dsA D) 55 (0, 0)) := by
  obtain ⟨c, hb, hn, hc⟩ := h
  rw [hb]
  have : c = dsA D := by
    apply Array.ext_getElem?
    intro i
    by_cases q : i < 16
    · rw [hc i q, dsA_at D i q]
    · rw [Array.getElem?_eq_none (by omega), Array.getElem?_eq_none (by rw [dsA_size]; omega)]
  rw [this]
theorem ds_alloc (w : World) (D : Nat → Nat) : Ds (w.alloc (.cells (dsA D) 55)) w.heap.size D := by
  have := World.rowIs_alloc w (dsA D) 55 (fun j => .int .i64 (D j : Nat)) (fun i hi => dsA_at D i hi)
  exact this
theorem dsA_one (D : Nat → Nat) : (dsA D).all (·.oneCell') = true :=
  Array.all_eq_true_iff_forall_mem.2 (fun v hv => by
    obtain ⟨i, hi, rfl⟩ := Array.mem_iff_getElem.1 hv
    have := dsA_at D i hi
    rw [Array.getElem?_eq_getElem hi] at this
    rw [Option.some.inj this]
    rfl)

/-- While it is found out. -/
structure Fs (w wr : World) (b : Nat) (F : Nat → Bool) (D : Nat → Nat) : Prop where
  ds : Ds wr (w.heap.size + 1) D
  gr : Gr wr b F
  rs : Ds wr w.heap.size (fun _ => 0)
  bl : Below w.heap.size w wr
theorem Fs.set {wr : World} {D D' : Nat → Nat} (h : Fs w wr b F D) (hb : b < w.heap.size) {i v : Nat} (hD : ∀ j, j < 16 → D' j = if j = i then v else D j) : Fs w (wr.setCell ⟨w.heap.size + 1, i, none⟩ (.int .i64 (v : Nat))) b F D' :=
  ⟨h.ds.set hD, h.gr.setOther (by show b ≠ w.heap.size + 1; omega) _, h.rs.setOther (by show w.heap.size ≠ w.heap.size + 1; omega) _, h.bl.setCell (by show w.heap.size ≤ w.heap.size + 1; omega) _⟩
theorem Fs.drewN {wr : World} {D : Nat → Nat} (h : Fs w wr b F D) (q : Nat) : Fs w (wr.drewN q) b F D := ⟨h.ds, h.gr, h.rs, ⟨h.bl.os, h.bl.tape, h.bl.output, h.bl.size, h.bl.block⟩⟩
theorem Fs.cells {wr : World} {D : Nat → Nat} (h : Fs w wr b F D) {i : Nat} (hi : i < 16) : wr.cell? ⟨w.heap.size + 1, i, none⟩ = some (.int .i64 (D i : Nat)) ∧ wr.frozen? ⟨w.heap.size + 1, i, none⟩ = false := ⟨World.rowIs.cell h.ds hi, World.rowIs.frozen h.ds i⟩
theorem Fs.bool {wr : World} {D : Nat → Nat} (h : Fs w wr b F D) {i k : Nat} (hi : i < 16) (hk : k < 16) : wr.cell? ⟨b, i * 16 + k, none⟩ = some (.bool (dE F i k)) := World.rowIs.cell h.gr (by omega)

theorem far_any (hG : Gr w b F) {t : Nat} (ht : t < 16) :
    Calls Tryd.prog 18 #[.pointer (some ⟨b, 0, none⟩), .int .i64 (t : Nat)] w fun e w' => (∃ D, Lk.Far (dE F) t 16 D ∧ e = .returned (.agg (dsA D))) ∧ Below w.heap.size w w' := by
  have hbl := World.rowIs.lt hG
  obtain ⟨W0, hW0⟩ : ∃ W0, W0 = (w.alloc (.cells (dsA (fun _ => 0)) 55)).alloc (.cells (dsA (fun _ => 0)) 55) := ⟨_, rfl⟩
  have F0 : Hid (Fs w W0 b F (d0 (dE F) t 0)) := hide2 (by
    rw [hW0]
    have a1 := ds_alloc (w.alloc (.cells (dsA (fun _ => 0)) 55)) (fun _ => 0)
    rw [World.size_alloc] at a1
    exact ⟨a1.congr (fun j _ => by unfold d0; rw [if_neg (by omega)]), (hG.alloc _).alloc _, (ds_alloc w _).alloc _, (below2 w _ _)⟩)
  subst hW0
  clear hG
  have hts : (t : Int) < 16 := by omega
  have hne : b ≠ w.heap.size + 1 := by omega
  go_enter Tryd.func18, Tryd.ntmps18
  go_wp2_with fail
  go_loopw [6] (fun i wr => ∃ k : Nat, k ≤ 16 ∧ i = .int .i64 (k : Nat) ∧ Hid (Fs w wr b F (d0 (dE F) t k))) (fun i _ => 16 - (intOf i).toNat)
  case atStart => exact ⟨0, by omega, rfl, F0⟩
  case round =>
    obtain ⟨k, hk, rfl, HF⟩ := hrel
    clear F0
    by_cases hlt : k < 16
    · obtain ⟨c0, f0⟩ := HF.out.cells hlt
      have hf1 := HF.out.set (i := k) (v := 99) hbl (D' := fun j => if j = k then 99 else d0 (dE F) t k j) (fun j _ => rfl)
      have c1 := hf1.bool hlt ht
      obtain ⟨c2, f2⟩ := hf1.cells hlt
      have NX : Hid (dE F k t = false → Fs w (wr.setCell ⟨w.heap.size + 1, k, none⟩ (.int .i64 99)) b F (d0 (dE F) t (k + 1))) := hide2 (fun e => HF.out.set hbl (i := k) (v := 99) (fun j _ => by
        unfold d0
        by_cases q : j = k
        · subst q; rw [if_pos (by omega), if_pos rfl, e]; rfl
        · rw [if_neg q]
          by_cases r : j < k
          · rw [if_pos r, if_pos (by omega)]
          · rw [if_neg r, if_neg (by omega)]))
      have NY : Hid (dE F k t = true → Fs w ((wr.setCell ⟨w.heap.size + 1, k, none⟩ (.int .i64 99)).setCell ⟨w.heap.size + 1, k, none⟩ (.int .i64 1)) b F (d0 (dE F) t (k + 1))) := hide2 (fun e => hf1.set hbl (i := k) (v := 1) (fun j _ => by
        unfold d0
        by_cases q : j = k
        · subst q; rw [if_pos (by omega), if_pos rfl, e]; rfl
        · rw [if_neg q]
          show _ = if j = k then 99 else _
          rw [if_neg q]
          by_cases r : j < k
          · rw [if_pos r, if_pos (by omega)]
          · rw [if_neg r, if_neg (by omega)]))
      clear hf1 HF
      have d1 : (k : Int) < 16 := by omega
      have d2 : decide ((k : Int) < 16) = true := decide_eq_true d1
      have c1' : wr.cell? ⟨b, k * 16 + t, none⟩ = some (.bool (dE F k t)) := by
        rw [← c1]
        exact (World.cell?_of_block (w := wr) (a := ⟨b, k * 16 + t, none⟩) (Below.heap_setCell _ _ _ b hne)).symm
      clear c1 c2 f2
      cases he : dE F k t with
      | false =>
        rw [he] at c1' NX
        go_wp2_with fail
        go_roundw
        case rel => exact ⟨k + 1, by omega, by go_num, hide2 (NX.out rfl)⟩
        case measure => simp [intOf]; omega
      | true =>
        rw [he] at c1' NY
        go_wp2_with fail
        go_roundw
        case rel => exact ⟨k + 1, by omega, by go_num, hide2 (NY.out rfl)⟩
        case measure => simp [intOf]; omega
    · have e1 : k = 16 := by omega
      subst e1
      have H1 : Hid (∃ D, Lk.Far (dE F) t 0 D ∧ Fs w wr b F D) := hide2 ⟨_, Lk.far_zero (fun i hi => by unfold d0; rw [if_pos hi]), HF.out⟩
      clear HF
      go_wp2_with fail
      go_loopw [7] (fun i wr => ∃ n : Nat, n ≤ 16 ∧ i = .int .i64 (n : Nat) ∧ Hid (∃ D, Lk.Far (dE F) t n D ∧ Fs w wr b F D)) (fun i _ => 16 - (intOf i).toNat)
      case atStart => exact ⟨0, by omega, rfl, H1⟩
      case round =>
        obtain ⟨n, hn, rfl, HF⟩ := hrel
        clear H1
        by_cases hln : n < 16
        · have d3 : decide ((n : Int) < 16) = true := decide_eq_true (by omega)
          have H2 : Hid (∃ D, Lk.Fam (dE F) t n 0 0 D ∧ Fs w wr b F D) := hide2 (by obtain ⟨D, h1, h2⟩ := HF.out; exact ⟨D, Lk.Fam.start h1, h2⟩)
          clear HF
          go_wp2_with fail
          go_loopw [8] (fun i wr => ∃ a : Nat, a ≤ 16 ∧ i = .int .i64 (a : Nat) ∧ Hid (∃ D, Lk.Fam (dE F) t n a 0 D ∧ Fs w wr b F D)) (fun i _ => 16 - (intOf i).toNat)
          case atStart => exact ⟨0, by omega, rfl, H2⟩
          case round =>
            obtain ⟨a, ha, rfl, HF⟩ := hrel
            clear H2
            by_cases hla : a < 16
            · have d4 : decide ((a : Int) < 16) = true := decide_eq_true (by omega)
              have d5 : (a : Int) < 16 := by omega
              go_wp2_with fail
              go_loopw [9] (fun i wr => ∃ c : Nat, c ≤ 16 ∧ i = .int .i64 (c : Nat) ∧ Hid (∃ D, Lk.Fam (dE F) t n a c D ∧ Fs w wr b F D)) (fun i _ => 16 - (intOf i).toNat)
              case atStart => exact ⟨0, by omega, rfl, HF⟩
              case round =>
                obtain ⟨c, hc, rfl, HC⟩ := hrel
                clear HF
                by_cases hlc : c < 16
                · have d6 : decide ((c : Int) < 16) = true := decide_eq_true (by omega)
                  have d7 : (c : Int) < 16 := by omega
                  obtain ⟨D, hM, hS⟩ := HC.out
                  clear HC
                  have q0 := hS.bool hla hlc
                  have HM := hide2 hM
                  have HS := hide2 hS
                  by_cases hsel : dE F a c = true ∧ c ≠ t
                  · obtain ⟨he, hct⟩ := hsel
                    rw [he] at q0
                    obtain ⟨qa, fa⟩ := hS.cells hla
                    obtain ⟨qc, fc⟩ := hS.cells hlc
                    have ba := hM.far.le a hla
                    have bc := hM.far.le c hlc
                    have hmin : min (D a : Int) ((D c : Int) + 1) = ((min (D a) (D c + 1) : Nat) : Int) := by omega
                    have NX : Hid (∀ z, ∃ D', Lk.Fam (dE F) t n a (c + 1) D' ∧ Fs w ((wr.setCell ⟨w.heap.size + 1, a, none⟩ (.int .i64 ((min (D a) (D c + 1) : Nat) : Int))).drewN z) b F D') := hide2 (fun z => ⟨_, Lk.Fam.take HM.out hla hlc he hct, Fs.drewN (HS.out.set hbl (fun j _ => rfl)) z⟩)
                    clear hM hS HM HS
                    have d8 : decide ((c : Int) = (t : Int)) = false := decide_eq_false (by omega)
                    have hct2 : ¬ (c : Int) = (t : Int) := by omega
                    clear he hmin
                    by_cases hle : D a ≤ D c + 1
                    · rw [Nat.min_eq_left hle] at NX
                      generalize D a = da at *
                      generalize D c = dc at *
                      have i1 : (da : Int) ≤ (dc : Int) + 1 := by omega
                      have i2 : (dc : Int) ≤ 99 := by omega
                      go_wp2_with fail
                      go_region
                      all_goals
                        go_wp2_with fail
                        go_roundw
                        case rel => exact ⟨c + 1, by omega, by go_num, hide2 (NX.out 1)⟩
                        case measure => simp [intOf]; omega
                    · rw [Nat.min_eq_right (by omega)] at NX
                      have e9 : ((D c + 1 : Nat) : Int) = (D c : Int) + 1 := by omega
                      rw [e9] at NX
                      clear e9
                      generalize D a = da at *
                      generalize D c = dc at *
                      have i1 : (dc : Int) + 1 < (da : Int) := by omega
                      have i2 : (dc : Int) ≤ 99 := by omega
                      go_wp2_with fail
                      go_region
                      all_goals
                        go_wp2_with fail
                        go_roundw
                        case rel => exact ⟨c + 1, by omega, by go_num, hide2 (NX.out 1)⟩
                        case measure => simp [intOf]; omega
                  · have NX : Hid (∃ D', Lk.Fam (dE F) t n a (c + 1) D' ∧ Fs w wr b F D') := hide2 ⟨D, HM.out.skip hsel, HS.out⟩
                    clear hM hS HM HS
                    cases he : dE F a c with
                    | false =>
                      rw [he] at q0
                      clear hsel
                      go_wp2_with fail
                      go_roundw
                      case rel => exact ⟨c + 1, by omega, by go_num, NX⟩
                      case measure => simp [intOf]; omega
                    | true =>
                      have hct : c = t := by
                        by_cases q : c = t
                        · exact q
                        · exact absurd ⟨he, q⟩ hsel
                      rw [he] at q0
                      have d8 : decide ((c : Int) = (t : Int)) = true := decide_eq_true (by omega)
                      clear hsel he
                      subst hct
                      go_wp2_with fail
                      go_roundw
                      case rel => exact ⟨c + 1, by omega, by go_num, NX⟩
                      case measure => simp [intOf]; omega
                · have d6 : decide ((c : Int) < 16) = false := decide_eq_false (by omega)
                  have e1 : c = 16 := by omega
                  subst e1
                  have NX : Hid (∃ D', Lk.Fam (dE F) t n (a + 1) 0 D' ∧ Fs w wr b F D') := hide2 (by obtain ⟨D, h1, h2⟩ := HC.out; exact ⟨D, h1.line, h2⟩)
                  clear HC
                  go_wp2_with fail
                  go_roundw
                  case rel => exact ⟨a + 1, by omega, by go_num, NX⟩
                  case measure => simp [intOf]; omega
            · have e1 : a = 16 := by omega
              subst e1
              have NX : Hid (∃ D', Lk.Far (dE F) t (n + 1) D' ∧ Fs w wr b F D') := hide2 (by obtain ⟨D, h1, h2⟩ := HF.out; exact ⟨D, h1.pass, h2⟩)
              clear HF
              go_wp2_with fail
              go_roundw
              case rel => exact ⟨n + 1, by omega, by go_num, NX⟩
              case measure => simp [intOf]; omega
        · have e1 : n = 16 := by omega
          subst e1
          obtain ⟨D, hFar, hS⟩ := HF.out
          clear HF
          have HB1 := hide2 hS.ds.blk
          have HB0 := hide2 hS.rs.blk
          have hb5 : (wr.setRow w.heap.size (dsA D)).heap[w.heap.size]? = some (.cells (dsA D) 55 (0, 0)) := setRow_heap _ _ _ _ _ _ HB0.out
          have HB5 := hide2 hb5
          have HFAR := hide2 hFar
          have HBL : Hid (Below w.heap.size w (wr.setRow w.heap.size (dsA D))) := hide2 (hS.bl.trans ⟨rfl, rfl, rfl, by simp, fun k hk => setRow_other _ _ _ _ (by omega)⟩)
          clear hS hb5 hFar
          go_wp2_with (first
            | (refine wpList_load_row rfl 55 (Operand.tmp 5) rfl (w.heap.size + 1) rfl 55 (dsA D) (0, 0) _ ?_ Tryd.underlying55 rfl ?_ ?_
               · exact HB1.out
               · kernel_rfl)
            | (refine wpList_store_row rfl 55 (Operand.tmp 4) (Operand.tmp 61) rfl w.heap.size (dsA D) rfl rfl 55 (dsA fun _ => 0) ?_ ?_ rfl (dsA_one D) ?_
               · exact HB0.out
               · kernel_rfl))
          try go_wp2_with fail
          refine bodyPost_ret (v := .agg (dsA D)) (results_cell_row (p := 4) (ty := 55) rfl _ _ w.heap.size 55 (dsA D) (0, 0) _ rfl HB5.out Tryd.underlying55 rfl (by kernel_rfl)) rfl ⟨⟨D, HFAR.out, rfl⟩, HBL.out⟩
end
end Go.Proofs.YtafbchjmjfpilaaDoor
