/-
  What joined does: the pieces of the frame with which bytes begin.
-/
import Derived.Test.YthfcjfhaoabdeaaGreatDoorRz29
import Derived.Lib.SmallJoins
import Derived.WalkMore
import Derived.Deep.LoopGhost
set_option linter.unusedVariables false
set_option linter.unusedSimpArgs false
namespace Go.Proofs.YthfcjfhaoabdeaaGreatDoor
open Go.RowKit

/-- A box that holds one thing. -/
def FBox (w : World) (b : Nat) (v : Value) (t : TypeId) : Prop := w.heap[b]? = some (.cells #[v] t (0, 0))
theorem FBox.cell {w : World} {b : Nat} {v : Value} {t : TypeId} (h : FBox w b v t) : w.cell? ⟨b, 0, none⟩ = some v := by
  rw [Go.Joins.cell_of_block h]; rfl
theorem FBox.free {w : World} {b : Nat} {v : Value} {t : TypeId} (h : FBox w b v t) : w.frozen? ⟨b, 0, none⟩ = false := Go.Joins.unfrozen_of_block h 0
theorem FBox.lt {w : World} {b : Nat} {v : Value} {t : TypeId} (h : FBox w b v t) : b < w.heap.size := (Array.getElem?_eq_some_iff.1 h).1
theorem FBox.set {w : World} {b : Nat} {v : Value} {t : TypeId} (h : FBox w b v t) (u : Value) : FBox (w.setCell ⟨b, 0, none⟩ u) b u t := by
  unfold FBox at *
  rw [Go.Joins.block_setCell h]; rfl
theorem FBox.below {B : Nat} {w w' : World} {b : Nat} {v : Value} {t : TypeId} (h : FBox w b v t) (hb : Below B w w') (hB : b < B) : FBox w' b v t := (hb.block b hB).trans h
theorem FBox.other {w : World} {b c i : Nat} {v u : Value} {t : TypeId} (h : FBox w b v t) (hne : b ≠ c) : FBox (w.setCell ⟨c, i, none⟩ u) b v t := (Below.heap_setCell _ _ _ _ (by simpa using hne)).trans h

theorem alloc2 (w : World) (o1 o2 : Obj) : ((w.alloc o1).alloc o2).heap[w.heap.size]? = some o1 ∧ ((w.alloc o1).alloc o2).heap[w.heap.size + 1]? = some o2 ∧ ((w.alloc o1).alloc o2).heap.size = w.heap.size + 2 := by
  have e1 : (w.alloc o1).heap.size = w.heap.size + 1 := by simp
  refine ⟨?_, ?_, by simp⟩
  · exact (Below.heap_alloc _ _ _ (by omega)).trans (heap_alloc_new w o1)
  · rw [← e1]
    exact heap_alloc_new (w.alloc o1) o2

theorem Own.other {w : World} {base g i : Nat} {v u : Value} {xs : List Int} (h : Own w base v xs) (hg : g < base) : Own (w.setCell ⟨g, i, none⟩ u) base v xs := by
  refine World.ownsRow.kept h (row := some g) ⟨rfl, rfl, rfl, by simp [World.setCell], fun k hk hne => Below.heap_setCell _ _ _ _ (by simpa using hne)⟩ ?_
  cases hv : v.ownBlock with
  | none => exact .inl rfl
  | some j =>
    right
    have := (World.ownsRow.lt h j hv).1
    intro e
    simp only [Option.some.injEq] at e
    omega
theorem Own.weak {w : World} {base base' : Nat} {v : Value} {xs : List Int} (h : Own w base v xs) (hb : base' ≤ base) : Own w base' v xs := by
  refine ⟨h.1, ?_⟩
  rcases h.2 with hn | ⟨g, cap, cur, rfl, hg, rest⟩
  · exact .inl hn
  · exact .inr ⟨g, cap, cur, rfl, by omega, rest⟩

/-- What must hold of the blocks, ahead of the frame's sum. -/
def Head (x : List Int) : Prop := nOf x ≤ 65536 ∧ 32 * nb (nOf x) ≤ x.length ∧ kds (nb (nOf x)) 161 x = true ∧ Ends ((sOf x).take 16)

theorem sOf16 {x : List Int} (h : 32 ≤ x.length) : (sOf x).take 16 = (x.drop 1).take 16 := by
  have := pcs_head (nb (nOf x)) x (nb_pos _) 0 16 (by omega) h
  rw [List.drop_zero] at this
  exact this
theorem head_short {x : List Int} {j : Nat} (h : x.length < 32 * (j + 1)) (hj : j < nb (nOf x)) : ¬ Head x := fun g => by
  have := g.2.1
  omega
theorem head_kind {x : List Int} {j : Nat} {kd : Int} (hj : j < nb (nOf x)) (hk : kd = if j = 0 then 161 else 178) (h : x.getD (32 * j) 0 ≠ kd) : ¬ Head x := fun g => h (by rw [hk]; exact kds_at _ _ _ g.2.2.1 j hj)
theorem head_sum {x : List Int} (hx : 32 ≤ x.length) (h : ¬ (nOf x ≤ 65536 ∧ Ends ((x.drop 1).take 16))) : ¬ Head x := fun g => h ⟨g.1, by rw [← sOf16 hx]; exact g.2.2.2⟩

/-- How far joined is, behind j blocks. -/
def Jd (x : List Int) (j : Nat) (kd en : Int) : Prop :=
  kds j 161 x = true ∧ (j = 0 ∧ kd = 161 ∧ en = 16 ∨ 1 ≤ j ∧ kd = 178 ∧ en = ((nOf x + 20 : Nat) : Int) ∧ nOf x ≤ 65536 ∧ Ends ((x.drop 1).take 16) ∧ j ≤ nb (nOf x))

theorem blk_at (x : List Int) (j : Nat) : ((x.drop (32 * j)).take 32).getD 0 0 = x.getD (32 * j) 0 := by
  simp only [List.getD]
  rw [List.getElem?_take_of_lt (by omega), List.getElem?_drop]
  simp
theorem blk_tail (x : List Int) (j : Nat) : ((x.drop (32 * j)).take 32).drop 1 = ((x.drop (32 * j)).drop 1).take 31 := by
  rw [List.drop_take]

theorem Sl.cutA {w : World} {a : Option Addr} {l c : Nat} {xs : List Int} (h : Sl w a l c xs) (m : Nat) (hm : m ≤ l) :
    ∃ a1 a2, Go.sliced a 0 m c 1 = .slice a1 m c ∧ Sl w a1 m c (xs.take m) ∧ Go.sliced a m l c 1 = .slice a2 (l - m) (c - m) ∧ Sl w a2 (l - m) (c - m) (xs.drop m) := by
  obtain ⟨a1, e1, s1⟩ := h.sliced 0 m (Nat.zero_le _) hm
  obtain ⟨a2, e2, s2⟩ := h.sliced m l hm (Nat.le_refl _)
  have hx := h.1
  rw [List.take_of_length_le (by omega)] at s2
  exact ⟨a1, a2, e1, by simpa using s1, e2, s2⟩

set_option maxHeartbeats 4000000 in
theorem joined_any (ao : Option Addr) (len cap : Nat) (x : List Int) (w : World) (h : Sl w ao len cap x) :
    Calls Tryz.prog 157 #[.slice ao len cap] w fun e w' => Below w.heap.size w w' ∧
      (Head x ∧ (∃ v, e = .returned (.tuple #[v, .int .i64 ((nOf x + 20 : Nat) : Int)]) ∧ Own w' w.heap.size v (sOf x)) ∨ ¬ Head x ∧ e = .returned (.tuple #[.slice none 0 0, .int .i64 0])) := by
  obtain ⟨i0, hi, hz0, hz1, hz2⟩ := info_parts Tryz.infoU8
  have hx := h.1
  have hbyt := h.2.2.2.1
  have hcm := h.2.2.1
  have hlc := h.2.1
  have hlen : (len : Int) ≤ 9223372036854775807 := by unfold maxLen at hcm; omega
  obtain ⟨B, hB⟩ : ∃ B, B = w.heap.size := ⟨_, rfl⟩
  go_enter Tryz.func157, Tryz.ntmps157
  go_wp2
  go_step3
  go_wp2_with fail
  refine (cut_any ao len cap 32 w).mono ?_
  rintro e w0 ⟨rfl, hw0⟩
  obtain ⟨hA1, hA2, hA3⟩ := alloc2 w (.cells #[.slice ao len cap] 82) (.cells #[.int .i64 ((32 : Nat) : Int)] 3)
  have hb0 : Below w.heap.size w w0 := by rw [hw0]; exact ((Below.refl _ _).alloc (Nat.le_refl _) _).alloc (by simp) _
  rw [← hw0] at hA1 hA2 hA3
  rw [← hB] at hA1 hA2 hA3 hb0 ⊢
  clear hw0
  have hown0 : Own w0 (B + 2) (.slice none 0 0) (pcs 0 x) := World.ownsRow_nil _ _ _ _
  have hj0 : Jd x 0 161 16 := ⟨rfl, .inl ⟨rfl, rfl, rfl⟩⟩
  unfold ctF
  replace hB := hF hB
  go_wp2
  go_step3
  go_wp2
  go_loopg [4, 5, 6, 8, 9, 10] 3000 (fun q v kd en _ _ _ wr => ∃ (j : Nat) (k n : Int) (a : Option Addr) (c : Nat), q + j = 3000 ∧ 32 * j ≤ len ∧ kd = .int .u8 k ∧ en = .int .i64 n ∧ Jd x j k n ∧ Own wr (B + 2) v (pcs j x) ∧ FBox wr (B + 1) (.int .i64 32) 3 ∧ FBox wr B (.slice a (len - 32 * j) c) 82 ∧ Sl w a (len - 32 * j) c (x.drop (32 * j)) ∧ Below B w wr ∧ B + 2 ≤ wr.heap.size)
  case atStart => exact ⟨0, 161, 16, ao, cap, rfl, by omega, rfl, rfl, hj0, hown0, hA2, hA1, by simpa using h, hb0, by omega⟩
  case round =>
    obtain ⟨j, k, n, a, c, hq, hjl, rfl, rfl, ⟨hkds, hJ⟩, hown, hbx1, hbx0, hsl, hbel, hsz⟩ := hrel
    have hpl := pcs_len j x (by omega)
    obtain ⟨av, lv, cv, rfl, hslv, _⟩ := hown.sl' (pcs_byt j x hbyt)
    obtain ⟨E, hE⟩ : ∃ E : Nat, n = (E : Int) ∧ E ≤ 70000 := by
      rcases hJ with ⟨_, _, rfl⟩ | ⟨_, _, rfl, h4, _⟩
      · exact ⟨16, rfl, by omega⟩
      · exact ⟨_, rfl, by omega⟩
    obtain ⟨rfl, hEb⟩ := hE
    have hlv : lv = 31 * j := by have := hslv.1; omega
    have hcj := hsl.2.1
    have hcmj := hsl.2.2.1
    clear hslv hA1 hA2 hA3 hb0 hown0 hj0
    by_cases hex : E ≤ lv
    · rcases hJ with hJ | ⟨h1, rfl, hEn, hJ1, hJ2, hJ3⟩
      · omega
      have hge := nb_ge (nOf x)
      have hlt := nb_lt (nOf x)
      have hjn : j = nb (nOf x) := by omega
      have HH : Hid (Head x) := ⟨hJ1, by rw [hx, ← hjn]; exact hjl, by rw [← hjn]; exact hkds, by rw [sOf16 (x := x) (by omega)]; exact hJ2⟩
      have HO : Hid (Own wr B (.slice av lv cv) (sOf x)) := by
        have := hown.weak (base' := B) (by omega)
        rw [hjn] at this
        exact this
      have hEn2 : Hid (E = nOf x + 20) := by unfold Hid; omega
      have hdi : ¬ (lv : Int) < (E : Int) := by omega
      have hdn : ¬ lv < E := by omega
      have hd : decide ((lv : Int) < (E : Int)) = false := by simp; omega
      clear hown hbx1 hbx0 hsl hEn hJ2 hkds h hpl hjn hlv
      go_wp2
      try rw [Exit.noGoto_ret]
      go_ret2
      have hB' := hB.out
      exact ⟨by rw [← hB']; exact hbel, .inl ⟨HH.out, _, by rw [hEn2.out]; rfl, by rw [← hB']; exact HO.out⟩⟩
    have hjn : j < nb (nOf x) := by
      have hge := nb_ge (nOf x)
      have := nb_pos (nOf x)
      rcases hJ with ⟨rfl, _⟩ | ⟨h1, rfl, hEn, hJ1, hJ2, hJ3⟩ <;> omega
    have hkk : k = if j = 0 then 161 else 178 := by
      rcases hJ with ⟨rfl, rfl, _⟩ | ⟨h1, rfl, _⟩
      · rfl
      · rw [if_neg (by omega)]
    have hdi : (lv : Int) < (E : Int) := by omega
    have hdn : lv < E := by omega
    have hd : decide ((lv : Int) < (E : Int)) = true := by simp; omega
    generalize hL : len - 32 * j = L at *
    replace hL := hF hL
    replace hlv := hF hlv
    replace hkk := hF hkk
    go_wp2_with fail
    refine (cut1_any (B + 1) B 32 L c a wr hcj hcmj (by omega) hbx1.cell hbx0.cell hbx0.free).mono ?_
    rintro e w1 ⟨rfl, hw1⟩
    by_cases hs : L < 32
    · obtain ⟨a1, a2, e1, s1, e2, s2⟩ := hsl.cutA L (Nat.le_refl _)
      rw [Nat.min_eq_right (by omega)] at hw1 ⊢
      rw [e1]
      have hb1 : Below B w w1 := by rw [hw1]; exact hbel.setCell (Nat.le_refl _) _
      have HN : Hid (¬ Head x) := head_short (j := j) (by have := hL.out; omega) hjn
      have hLi : (L : Int) < 32 := by omega
      have hLd : decide ((L : Int) < 32) = true := by simp; omega
      have hLd2 : decide (L < 32) = true := by simp; omega
      clear hw1 hown hbx1 hbx0 hsl e1 e2 s1 s2 hbel hpl hkds hJ hkk hjn h
      go_wp2
      try rw [Exit.noGoto_ret]
      go_ret2
      have hB' := hB.out
      exact ⟨by rw [← hB']; exact hb1, .inr ⟨HN.out, rfl⟩⟩
    obtain ⟨a1, a2, e1, s1, e2, s2⟩ := hsl.cutA 32 (by omega)
    rw [Nat.min_eq_left (by omega)] at hw1 ⊢
    rw [e1]
    rw [e2] at hw1
    have hb1 : Below B w w1 := by rw [hw1]; exact hbel.setCell (Nat.le_refl _) _
    have hown1 : Own w1 (B + 2) (.slice av lv cv) (pcs j x) := by rw [hw1]; exact hown.other (by omega)
    have hbx1' : FBox w1 (B + 1) (.int .i64 32) 3 := by rw [hw1]; exact hbx1.other (by omega)
    have hbx0' : FBox w1 B (.slice a2 (L - 32) (c - 32)) 82 := by rw [hw1]; exact hbx0.set _
    have hsz1 : B + 2 ≤ w1.heap.size := by rw [hw1]; simpa [World.setCell] using hsz
    have hsL : Hid (len - 32 * (j + 1) = L - 32) := by unfold Hid; have := hL.out; omega
    have hdr : (x.drop (32 * j)).drop 32 = x.drop (32 * (j + 1)) := by rw [List.drop_drop, show 32 * j + 32 = 32 * (j + 1) from by omega]
    rw [hdr] at s2
    have hB' := hB.out
    have s1w : Sl w1 a1 32 c ((x.drop (32 * j)).take 32) := s1.below (by rw [← hB']; exact hb1)
    obtain ⟨b, off, rfl, hblt, hcell⟩ := s1w.2.2.2.2.2 (by omega)
    have hc0 := hcell 0 (by omega)
    rw [blk_at, Nat.add_zero] at hc0
    have hfb := hbyt.getD (32 * j)
    have hlk : x.getD (32 * j) 0 ≠ k → ¬ Head x := fun hne => head_kind hjn hkk.out hne
    have hk1 : x.getD (32 * j) 0 = k → kds (j + 1) 161 x = true := fun e => by
      rw [kds_snoc, hkds, Bool.true_and, beq_iff_eq]
      simp only [List.getD, List.getElem?_drop, Nat.add_zero] at e ⊢
      rw [e]
      exact hkk.out
    generalize x.getD (32 * j) 0 = f at *
    obtain ⟨a3, hs3, s3⟩ := s1w.from (P := Tryz.prog) 82 Tryz.underlying82 Tryz.size5 1 (by omega)
    rw [blk_tail] at s3
    replace hs3 : ∀ u : World, (Instr.slice 82 (.slice (some ⟨b, off, none⟩) 32 c) (some (.int .i64 1)) none none).run Tryz.prog u = .ok (.slice a3 31 (c - 1)) u := hs3
    replace s3 : Sl w1 a3 31 (c - 1) (((x.drop (32 * j)).drop 1).take 31) := s3
    by_cases hf : f = k
    · have hk2 := hF (hk1 hf)
      subst hf
      clear hlk hk1 hw1 hcell s1w s1 e1 e2 hown hbx1 hbx0 hsl hbel h hkds hdr hB'
      rcases hJ with ⟨rfl, rfl, hE16⟩ | ⟨h1, rfl, hEn, hJ1, hJ2, hJ3⟩
      · have hx32 : 32 ≤ x.length := by have := hL.out; omega
        replace hE16 : Hid (E = 16) := by unfold Hid; omega
        clear hkk
        go_wp2_with fail
        refine (bodySize_any a3 31 (c - 1) _ w1 s3 (by omega)).mono ?_
        rintro e w2 ⟨hb2, m, hm, hres⟩
        have e16 : ((((x.drop (32 * 0)).drop 1).take 31).take 16) = (x.drop 1).take 16 := by
          rw [List.take_take, Nat.min_eq_left (by omega)]
          simp
        have en : m = nOf x := by
          rw [hm]
          unfold nOf
          refine congrArg va ?_
          rw [Nat.mul_zero, List.drop_zero, List.drop_take, List.take_take, List.drop_drop]
          rfl
        rw [e16, en] at hres
        clear hm e16
        have hb2' : Below B w w2 := hb1.trans (hb2.mono (by omega))
        rcases hres with ⟨⟨hn1, hn2⟩, rfl⟩ | ⟨hno, rfl⟩
        · have hown2 : Own w2 (B + 2) (.slice av lv cv) [] := hown1.up hb2
          have s3' : Sl w2 a3 31 (c - 1) ((x.drop 1).take 31) := by
            have := s3.below hb2
            rw [Nat.mul_zero, List.drop_zero] at this
            exact this
          have e1x : pcs 1 x = (x.drop 1).take 31 := by simp [pcs]
          replace e1x := hF e1x
          have hsz2 : B + 2 ≤ w2.heap.size := Nat.le_trans hsz1 hb2.size
          have hbx12 := hF (hbx1'.below hb2 (by omega))
          have hbx02 := hF (hbx0'.below hb2 (by omega))
          have hJn : Hid (Jd x 1 178 ((nOf x + 20 : Nat) : Int)) := ⟨hk2.out, .inr ⟨Nat.le_refl _, rfl, rfl, hn1, hn2, nb_pos _⟩⟩
          obtain ⟨M, hM⟩ : ∃ M, M = nOf x := ⟨_, rfl⟩
          rw [← hM] at hJn hn1 ⊢
          have hMi : (M : Int) ≤ 65536 := by omega
          replace hM := hF hM
          clear hown1 hbx1' hbx0' s3 hb2 en hk2 hn2 hn1
          go_wp2_with (first | (at_builtin; refine wpList_append_sl rfl _ _ 82 rfl (B + 2) i0 Tryz.underlying82 hi hz0 hz1 hz2 _ _ rfl hown2 a3 31 (c - 1) _ rfl s3' (by simp) hsz2 ?_) | fail)
          intro v3 w3 hown3 hb3
          have hown4 : Own w3 (B + 2) v3 (pcs 1 x) := by rw [e1x.out]; simpa using hown3
          have hb3' : Below B w w3 := hb2'.trans (hb3.mono (by omega))
          have hbx13 := hbx12.out.below hb3 (by omega)
          have hbx03 := hbx02.out.below hb3 (by omega)
          have hsz3 : B + 2 ≤ w3.heap.size := Nat.le_trans hsz2 hb3.size
          replace hbx13 := hF hbx13
          replace hbx03 := hF hbx03
          clear hown2 hown3 hb3 s3' hb2' hbx12 hbx02
          go_wp2
          go_roundg (gk - 1)
          case measure => omega
          case rel => exact ⟨1, 178, ((M + 20 : Nat) : Int), a2, c - 32, by omega, by have := hL.out; omega, rfl, by go_num, hJn.out, hown4, hbx13.out, by rw [hsL.out]; exact hbx03.out, by rw [hsL.out]; exact s2, hb3', hsz3⟩
        · have HN := hF (head_sum hx32 hno)
          clear hno hown1 hbx1' hbx0' s2 s3 hb2 en hk2
          go_wp2
          try rw [Exit.noGoto_ret]
          go_ret2
          have hB' := hB.out
          exact ⟨by rw [← hB']; exact hb2', .inr ⟨HN.out, rfl⟩⟩
      · have hJn : Hid (Jd x (j + 1) 178 (E : Int)) := ⟨hk2.out, .inr ⟨by omega, rfl, hEn, hJ1, hJ2, by omega⟩⟩
        have hb1x : j ≤ 2200 := by
          have := nb_lt (nOf x)
          omega
        replace hbx1' := hF hbx1'
        replace hbx0' := hF hbx0'
        clear hk2 hEn hJ1 hJ2 hJ3 hjn hkk
        go_wp2_with (first | (at_builtin; refine wpList_append_sl rfl _ _ 82 rfl (B + 2) i0 Tryz.underlying82 hi hz0 hz1 hz2 _ _ rfl hown1 a3 31 (c - 1) _ rfl s3 (by rw [hpl]; omega) hsz1 ?_) | fail)
        intro v3 w3 hown3 hb3
        have hown4 : Own w3 (B + 2) v3 (pcs (j + 1) x) := by rw [pcs_snoc, List.drop_drop]; exact hown3
        have hb3' : Below B w w3 := hb1.trans (hb3.mono (by omega))
        have hbx13 := hF (hbx1'.out.below hb3 (by omega))
        have hbx03 := hF (hbx0'.out.below hb3 (by omega))
        have hsz3 : B + 2 ≤ w3.heap.size := Nat.le_trans hsz1 hb3.size
        clear hown1 hown3 hb3 s3 hb1 hbx1' hbx0'
        go_wp2
        go_roundg (gk - 1)
        case measure => omega
        case rel => exact ⟨j + 1, 178, (E : Int), a2, c - 32, by omega, by have := hL.out; omega, rfl, rfl, hJn.out, hown4, hbx13.out, by rw [hsL.out]; exact hbx03.out, by rw [hsL.out]; exact s2, hb3', hsz3⟩
    · have HN := hF (hlk hf)
      have hfi : (f == k) = false := by simpa using hf
      have hfn : (f != k) = true := by simpa using hf
      clear hlk hk1 hw1 hcell s1w s1 s2 s3 hs3 e1 e2 hown hbx1 hbx0 hsl hbel h hkds hdr hB' hown1 hbx1' hbx0' hJ hkk
      go_wp2
      try rw [Exit.noGoto_ret]
      go_ret2
      have hB' := hB.out
      exact ⟨by rw [← hB']; exact hb1, .inr ⟨HN.out, rfl⟩⟩
end Go.Proofs.YthfcjfhaoabdeaaGreatDoor

/-
  What holds and Take do.
-/
set_option linter.unusedVariables false
set_option linter.unusedSimpArgs false
namespace Go.Proofs.YthfcjfhaoabdeaaGreatDoor
open Go.RowKit

theorem zeros_step {ys : List Int} {k : Nat} (h : ys.take k = List.replicate k 0) (hk : k < ys.length) (h0 : ys.getD k 0 = 0) : ys.take (k + 1) = List.replicate (k + 1) 0 := by
  rw [List.take_succ_eq_append_getElem hk, h, List.replicate_succ']
  congr 2
  simpa [List.getD, List.getElem?_eq_getElem hk] using h0
theorem zeros_not {ys : List Int} {k m : Nat} (hk : k < ys.length) (h0 : ys.getD k 0 ≠ 0) : ys ≠ List.replicate m 0 := by
  intro e
  apply h0
  subst e
  simp only [List.getD, List.getElem?_replicate]
  split <;> rfl

set_option maxHeartbeats 1000000 in
/-- holds: nothing but noughts behind the end, and the right sum ahead of it? -/
theorem holds_any (ao : Option Addr) (len cap : Nat) (xs : List Int) (en : Nat) (w : World) (h : Sl w ao len cap xs) (h4 : 4 ≤ en) (hen : en ≤ len) :
    Calls Tryz.prog 158 #[.slice ao len cap, .int .i64 (en : Int)] w fun e w' => ∃ r : Bool, e = .returned (.bool r) ∧ (r = true ↔ xs.drop en = List.replicate (len - en) 0 ∧ Ends (xs.take en)) ∧ Below w.heap.size w w' := by
  have hx := h.1
  have hlen : (len : Int) ≤ 9223372036854775807 := by have := h.2.1; have := h.2.2.1; unfold maxLen at this; omega
  obtain ⟨a1, hs1, hsl1⟩ := h.from (P := Tryz.prog) 82 Tryz.underlying82 Tryz.size5 en hen
  obtain ⟨a2, hs2, hsl2⟩ := h.upto (P := Tryz.prog) 82 Tryz.underlying82 Tryz.size5 en hen
  have hmb : ((len - en : Nat) : Int) ≤ 9223372036854775807 := by omega
  generalize hm : len - en = m at *
  have hyl : (xs.drop en).length = m := hsl1.1
  generalize hy : xs.drop en = ys at *
  replace hm := hF hm
  replace hy := hF hy
  replace hsl2 := hF hsl2
  have hcell : Hid (∀ i, i < m → ∃ b off, a1 = some ⟨b, off, none⟩ ∧ w.cell? ⟨b, off + i, none⟩ = some (.int .u8 (ys.getD i 0))) := fun i hi => by
    obtain ⟨b, off, e1, _, hc⟩ := hsl1.2.2.2.2.2 (by omega)
    exact ⟨b, off, e1, hc i hi⟩
  clear hsl1 h
  go_enter Tryz.func158, Tryz.ntmps158
  go_wp2
  go_loop [6, 11] (fun _ i => ∃ k : Nat, k ≤ m ∧ i = .int .i64 (k : Int) ∧ Hid (ys.take k = List.replicate k 0)) (fun _ i => m - (intOf i).toNat)
  case atStart => exact ⟨0, by omega, rfl, rfl⟩
  case round =>
    obtain ⟨k, hk, rfl, HD⟩ := hrel
    by_cases hlt : k < m
    · have hlti : (k : Int) < (m : Int) := by omega
      obtain ⟨b, off, rfl, hc⟩ := hcell.out k hlt
      by_cases h0 : ys.getD k 0 = 0
      · have HD2 := hF (zeros_step HD.out (by omega) h0)
        rw [h0] at hc
        clear h0
        go_wp2
        go_round
        case rel => exact ⟨k + 1, by omega, by go_num, HD2⟩
        case measure => simp [intOf]; omega
      · have HN := hF (zeros_not (m := m) (by omega) h0)
        generalize ys.getD k 0 = y at *
        have h0b : (y == 0) = false := by simpa using h0
        have h0n : (y != 0) = true := by simpa using h0
        go_wp2
        go_ret
        exact .inl ⟨rfl, fun q => absurd q HN.out, Below.refl _ _⟩
    · have hlti : ¬ (k : Int) < (m : Int) := by omega
      have HZ : Hid (ys = List.replicate m 0) := by
        have := HD.out
        rw [List.take_of_length_le (by omega), show k = m from by omega] at this
        exact this
      go_wp2_with fail
      refine (endsInSum_any a2 en cap _ w hsl2.out h4).mono ?_
      rintro e w2 ⟨r, rfl, hr, hb2⟩
      replace hr := hF hr
      go_wp2
      go_ret
      exact ⟨_, rfl, by rw [hr.out]; exact ⟨fun q => ⟨HZ.out, q⟩, fun q => q.2⟩, hb2⟩

/-- The answer's place and frame, if there is one. -/
def takA (xs : List Int) (at_ : Int) : Option (Nat × List Int) := if 0 ≤ at_ ∧ at_ < (xs.length : Int) ∧ at_ % 32 = 0 then tak (xs.drop at_.toNat) else none

/-- A body that was handed out: its bytes lie in a block of their own. -/
def Bd (w : World) (base g : Nat) (v : Value) (body : List Int) : Prop :=
  base ≤ g ∧ (∃ cur, w.heap[g]? = some (.cells cur 5 (0, 0))) ∧ ∃ ao c, v = .slice ao body.length c ∧ Sl w ao body.length c body ∧ ∀ b off, ao = some ⟨b, off, none⟩ → b = g

theorem Bd.drewN {w : World} {base g : Nat} {v : Value} {body : List Int} (h : Bd w base g v body) (q : Nat) : Bd (w.drewN q) base g v body := by
  obtain ⟨b1, ⟨cur, b2⟩, ao3, c3, b3, b4, b5⟩ := h
  exact ⟨b1, ⟨cur, b2⟩, ao3, c3, b3, b4.drewN q, b5⟩

theorem Sl.shrink {w : World} {ao : Option Addr} {len cap : Nat} {xs : List Int} (h : Sl w ao len cap xs) (k : Nat) (hk : k ≤ len) : Sl w ao k k (xs.take k) := by
  obtain ⟨h1, h2, h3, h4, h5, h6⟩ := h
  refine ⟨by simp; omega, Nat.le_refl _, by omega, h4.take _, fun e => ?_, fun hl => ?_⟩
  · have := (h5 e).1
    omega
  · obtain ⟨b, off, e, hlt, hc⟩ := h6 (by omega)
    refine ⟨b, off, e, hlt, fun i hi => ?_⟩
    rw [hc i (by omega)]
    simp only [List.getD, List.getElem?_take_of_lt hi]

theorem sliced_block (g o l k c s : Nat) (ao : Option Addr) (h : Go.sliced (some ⟨g, o, none⟩) l k c s = .slice ao (k - l) (c - l)) (b off : Nat) (e : ao = some ⟨b, off, none⟩) : b = g := by
  unfold Go.sliced at h
  simp only [Value.slice.injEq, and_true] at h
  subst e
  split at h
  · simp at h
    exact h.1.symm
  · simp [addr_add] at h
    exact h.1.symm

/-- The body within a frame's pieces. -/
theorem Own.body {w : World} {base : Nat} {v : Value} {s : List Int} (h : Own w base v s) (hb : Byt s) (n : Nat) (hn : n + 16 ≤ s.length) :
    ∃ g c ao, v = .slice (some ⟨g, 0, none⟩) s.length c ∧ s.length ≤ c ∧ c ≤ maxLen ∧ Go.sliced (some ⟨g, 0, none⟩) 16 (n + 16) (n + 16) 1 = .slice ao n n ∧ Bd w base g (.slice ao n n) ((s.drop 16).take n) ∧ Sl w (some ⟨g, 0, none⟩) s.length c s := by
  obtain ⟨ao0, c0, hv, hsl, _⟩ := h.sl hb
  rcases h.2 with ⟨_, h0⟩ | ⟨g, cap, cur, rfl, hg, hh, hn1, hm, hs, ht⟩
  · omega
  · simp only [Value.slice.injEq, true_and] at hv
    obtain ⟨rfl, rfl⟩ := hv
    obtain ⟨ao, e, s2⟩ := (hsl.shrink (n + 16) hn).sliced 16 (n + 16) (by omega) (Nat.le_refl _)
    have hbk := sliced_block g 0 16 (n + 16) (n + 16) 1 ao e
    rw [show n + 16 - 16 = n from by omega] at e s2
    have el : ((s.drop 16).take n).length = n := by simp; omega
    refine ⟨g, cap, ao, rfl, hn1, hm, e, ⟨hg, ⟨cur, hh⟩, ao, n, by rw [el], ?_, hbk⟩, hsl⟩
    rw [el]
    rw [List.take_take, Nat.min_self, List.drop_take, show n + 16 - 16 = n from by omega] at s2
    exact s2

theorem results_tmp4 {fn : Func} {t u v z : Tmp} (h : fn.results = #[.tmp t, .tmp u, .tmp v, .tmp z]) (tmps : Array Value) (P : Program) (w : World) :
    (results fn tmps).run P w = .ok (.tuple #[tmps.getD t undef, tmps.getD u undef, tmps.getD v undef, tmps.getD z undef]) w := by
  simp [results, h]

/-- What Take answers. -/
def TkR (w : World) (xs : List Int) (at_ : Int) (e : Ending) (w' : World) : Prop :=
  (∃ seq body v g, takA xs at_ = some (seq, body) ∧ e = .returned (.tuple #[.int .u64 ((seq : Nat) : Int), v, .int .i64 (at_ + ((32 * nb body.length : Nat) : Int)), .bool true]) ∧ Bd w' w.heap.size g v body) ∨
  (takA xs at_ = none ∧ e = .returned (.tuple #[.int .u64 0, .slice none 0 0, .int .i64 0, .bool false]))

theorem good_iff (x : List Int) : FGood x ↔ Head x ∧ ((sOf x).drop (nOf x + 20) = List.replicate (31 * nb (nOf x) - (nOf x + 20)) 0 ∧ Ends ((sOf x).take (nOf x + 20))) :=
  ⟨fun ⟨a, b, c, d, e, f⟩ => ⟨⟨a, b, c, d⟩, e, f⟩, fun ⟨⟨a, b, c, d⟩, e, f⟩ => ⟨a, b, c, d, e, f⟩⟩

set_option maxHeartbeats 2000000 in
theorem ftake_any (ao : Option Addr) (len cap : Nat) (xs : List Int) (at_ : Int) (w : World) (h : Sl w ao len cap xs) (hlb : len ≤ 140737488355328) :
    Calls Tryz.prog 118 #[.slice ao len cap, .int .i64 at_] w fun e w' => TkR w xs at_ e w' ∧ Below w.heap.size w w' := by
  have hx := h.1
  by_cases hn : at_ < 0
  · have ht : Hid (takA xs at_ = none) := by unfold Hid takA; rw [if_neg (by omega)]
    have hd : decide (at_ < 0) = true := by simpa using hn
    go_enter Tryz.func118, Tryz.ntmps118
    go_wp2
    try simp only [Exit.inBlock, Exit.then]
    refine bodyPost_ret (results_tmp4 rfl _ _ _) rfl ?_
    exact ⟨.inr ⟨ht.out, rfl⟩, Below.refl _ _⟩
  obtain ⟨a, rfl⟩ : ∃ a : Nat, at_ = (a : Int) := ⟨at_.toNat, by omega⟩
  have hd1 : decide ((a : Int) < 0) = false := by simp
  by_cases hg : len ≤ a
  · have ht : Hid (takA xs a = none) := by unfold Hid takA; rw [if_neg (by omega)]
    have hgi : (len : Int) ≤ (a : Int) := by omega
    have hd2 : decide ((len : Int) ≤ (a : Int)) = true := by simp; omega
    have hd3 : decide (len ≤ a) = true := by simp; omega
    go_enter Tryz.func118, Tryz.ntmps118
    go_wp2
    try simp only [Exit.inBlock, Exit.then]
    refine bodyPost_ret (results_tmp4 rfl _ _ _) rfl ?_
    exact ⟨.inr ⟨ht.out, rfl⟩, Below.refl _ _⟩
  have hgi : ¬ (len : Int) ≤ (a : Int) := by omega
  have hd2 : decide ((len : Int) ≤ (a : Int)) = false := by simp; omega
  have hd3 : decide (len ≤ a) = false := by simp; omega
  have ha64 : (a : Int) ≤ 140737488355328 := by omega
  by_cases hr : (a : Int) % 32 = 0
  · have hr1 : ((a : Int) % 32 == 0) = true := by simpa using hr
    have hr2 : ((a : Int) % 32 != 0) = false := by simpa using hr
    have hta : Hid (takA xs a = tak (xs.drop a)) := by unfold Hid takA; rw [if_pos (by omega)]; rfl
    obtain ⟨a1, hs1, hsl1⟩ := h.from (P := Tryz.prog) 82 Tryz.underlying82 Tryz.size5 a (by omega)
    have hbx := hsl1.2.2.2.1
    clear h
    go_enter Tryz.func118, Tryz.ntmps118
    go_wp2_with fail
    refine (joined_any a1 (len - a) (cap - a) (xs.drop a) w hsl1).mono ?_
    rintro e w1 ⟨hb1, hres⟩
    have HG := hF (good_iff (xs.drop a))
    generalize xs.drop a = x at *
    rcases hres with ⟨hH, v, rfl, hown⟩ | ⟨hH, rfl⟩
    · have hn1 := hH.1
      have hge := nb_ge (nOf x)
      have hlt := nb_lt (nOf x)
      have hsl : (sOf x).length = 31 * nb (nOf x) := pcs_len _ _ hH.2.1
      have hsb : Byt (sOf x) := pcs_byt _ _ hbx
      obtain ⟨g, c, ao2, rfl, hlc, hcm, hsli, hbd, hsls⟩ := hown.body hsb (nOf x) (by omega)
      rw [hsl] at hlc hsls ⊢
      have he0 : ¬ ((nOf x + 20 : Nat) : Int) = 0 := by omega
      have he1 : (((nOf x + 20 : Nat) : Int) == 0) = false := by simpa using he0
      clear hs1 hsl1 hown
      have hbody : Hid (bodyOf x = ((sOf x).drop 16).take (nOf x)) := rfl
      have hseq : Hid (seqOf x = va ((sOf x).take 8)) := rfl
      go_wp2_with fail
      refine (holds_any (some ⟨g, 0, none⟩) (31 * nb (nOf x)) c (sOf x) (nOf x + 20) w1 hsls (by omega) (by omega)).mono ?_
      rintro e w2 ⟨r, rfl, hr3, hb2⟩
      have hb02 : Below w.heap.size w w2 := hb1.trans (hb2.mono hb1.size)
      cases r with
      | false =>
        have ht : Hid (takA xs a = none) := by
          unfold Hid
          rw [hta.out]
          exact tak_bad hbx fun hg => by simpa using hr3.2 (HG.out.1 hg).2
        clear HG hr3
        go_wp2
        try simp only [Exit.inBlock, Exit.then]
        refine bodyPost_ret (results_tmp4 rfl _ _ _) rfl ?_
        exact ⟨.inr ⟨ht.out, rfl⟩, hb02⟩
      | true =>
        have ht : Hid (takA xs a = some (seqOf x, bodyOf x)) := by
          unfold Hid
          rw [hta.out]
          exact tak_good hbx (HG.out.2 ⟨hH, hr3.1 rfl⟩)
        have hsls2 := hsls.below hb2
        obtain ⟨a8, hs8, hsl8⟩ := hsls2.upto (P := Tryz.prog) 82 Tryz.underlying82 Tryz.size5 8 (by omega)
        replace hs8 : ∀ u : World, (Instr.slice 82 (.slice (some ⟨g, 0, none⟩) (31 * nb (nOf x)) c) none (some (.int .i64 8)) none).run Tryz.prog u = .ok (.slice a8 8 c) u := hs8
        have hlow : ∀ q, Calls Tryz.prog 159 #[.slice a8 8 c] (w2.drewN q) fun e w' => e = .returned (.int .u64 ((va ((sOf x).take 8) : Nat) : Int)) ∧ w' = w2.drewN q := fun q => lowFirst_any a8 8 c _ _ (hsl8.drewN q) (by omega)
        have hblk : ∀ q, Calls Tryz.prog 160 #[.int .i64 ((nOf x : Int) + 20)] (w2.drewN q) fun e w' => e = .returned (.int .i64 ((nb (nOf x) : Nat) : Int)) ∧ w' = w2.drewN q := fun q => blocksOf_any (nOf x + 20) _ (by omega)
        have hs16 : ∀ u : World, (Instr.slice 82 (.slice (some ⟨g, 0, none⟩) (31 * nb (nOf x)) c) (some (.int .i64 16)) (some (.int .i64 ((nOf x : Int) + 20 - 4))) (some (.int .i64 ((nOf x : Int) + 20 - 4)))).run Tryz.prog u = .ok (.slice ao2 (nOf x) (nOf x)) u := by
          intro u
          have ht' : Tryz.prog.underlying 82 = some (.slice (Tryz.prog.elem 82)) := by simp [Program.elem, Tryz.underlying82]
          have he : Tryz.prog.elem 82 = 5 := by simp [Program.elem, Tryz.underlying82]
          rw [run_slice_lhm u 82 (some ⟨g, 0, none⟩) (31 * nb (nOf x)) c ht' .i64 .i64 .i64 16 _ _ (by omega) (by omega) (by omega) (by omega), he, Tryz.size5]
          simp only [Result.andThen]
          rw [show ((nOf x : Int) + 20 - 4).toNat = nOf x + 16 from by omega, show (16 : Int).toNat = 16 from rfl, hsli]
        have hbd2 : Bd w2 w.heap.size g (.slice ao2 (nOf x) (nOf x)) (bodyOf x) := by
          obtain ⟨b1, ⟨cur, b2⟩, ao3, c3, b3, b4, b5⟩ := hbd
          rw [hbody.out]
          have hgl : g < w1.heap.size := (Array.getElem?_eq_some_iff.1 b2).1
          exact ⟨b1, ⟨cur, (hb2.block g hgl).trans b2⟩, ao3, c3, b3, b4.below hb2, b5⟩
        have hbl : Hid ((bodyOf x).length = nOf x) := bodyOf_len hH.2.1
        have hK : nb (nOf x) ≤ 3000 := by omega
        clear HG hr3 hsl8 hsls hsls2 hsli hbd hb1 hb2 hH hbody
        generalize va ((sOf x).take 8) = S at *
        generalize hnn : nOf x = n at *
        generalize hkk : nb n = K at *
        replace hnn := hF hnn
        replace hkk := hF hkk
        go_wp2
        go_quiet (first
          | (go_at_call 159; refine Calls.quiet_of_same (hlow _))
          | (go_at_call 160; refine Calls.quiet_of_same (hblk _)))
        go_wp2
        try simp only [Exit.inBlock, Exit.then]
        refine bodyPost_ret (results_tmp4 rfl _ _ _) rfl ?_
        have e1 : (a : Int) + (K : Int) * 32 = (a : Int) + ((32 * nb (bodyOf x).length : Nat) : Int) := by rw [hbl.out, hkk.out]; omega
        refine ⟨.inl ⟨seqOf x, bodyOf x, .slice ao2 n n, g, ht.out, ?_, hbd2.drewN _⟩, below_drewN hb02 _⟩
        show Ending.returned (.tuple #[.int .u64 (S : Int), .slice ao2 n n, .int .i64 ((a : Int) + (K : Int) * 32), .bool true]) = _
        rw [e1, hseq.out]
    · have ht : Hid (takA xs a = none) := by
        unfold Hid
        rw [hta.out]
        exact tak_bad hbx fun hg => hH (HG.out.1 hg).1
      clear hs1 hsl1 HG
      go_wp2
      try simp only [Exit.inBlock, Exit.then]
      refine bodyPost_ret (results_tmp4 rfl _ _ _) rfl ?_
      exact ⟨.inr ⟨ht.out, rfl⟩, hb1⟩
  · have ht : Hid (takA xs a = none) := by unfold Hid takA; rw [if_neg (by omega)]
    have hr1 : ((a : Int) % 32 == 0) = false := by simpa using hr
    have hr2 : ((a : Int) % 32 != 0) = true := by simpa using hr
    go_enter Tryz.func118, Tryz.ntmps118
    go_wp2
    try simp only [Exit.inBlock, Exit.then]
    refine bodyPost_ret (results_tmp4 rfl _ _ _) rfl ?_
    exact ⟨.inr ⟨ht.out, rfl⟩, Below.refl _ _⟩
end Go.Proofs.YthfcjfhaoabdeaaGreatDoor

/-
  What Put does.
-/
set_option linter.unusedVariables false
set_option linter.unusedSimpArgs false
namespace Go.Proofs.YthfcjfhaoabdeaaGreatDoor
open Go.RowKit

/-- A block that is a row of these bytes. -/
def Row (w : World) (g : Nat) (ys : List Int) : Prop := w.heap[g]? = some (.cells (bc ys).toArray 5 (0, 0))
theorem Row.cell {w : World} {g : Nat} {ys : List Int} (h : Row w g ys) (j : Nat) (hj : j < ys.length) : w.cell? ⟨g, j, none⟩ = some (.int .u8 (ys.getD j 0)) := by
  rw [cell_of_row w g j _ 5 (0, 0) h]
  simp [bc, List.getD, List.getElem?_eq_getElem hj]
theorem Row.free {w : World} {g : Nat} {ys : List Int} (h : Row w g ys) (j : Nat) : w.frozen? ⟨g, j, none⟩ = false := by
  unfold Row at h
  simp [World.frozen?, h]
theorem Row.set {w : World} {g : Nat} {ys : List Int} (h : Row w g ys) (j : Nat) (x : Int) : Row (w.setCell ⟨g, j, none⟩ (.int .u8 x)) g (ys.set j x) := by
  unfold Row at *
  have hlt := (Array.getElem?_eq_some_iff.1 h).1
  simp only [World.setCell, Array.getElem?_modify, h]
  simp [bc, List.map_set]
theorem Row.below {B : Nat} {w w' : World} {g : Nat} {ys : List Int} (h : Row w g ys) (hb : Below B w w') (hg : g < B) : Row w' g ys := (hb.block g hg).trans h
theorem Row.other {w : World} {g c i : Nat} {ys : List Int} {u : Value} (h : Row w g ys) (hne : g ≠ c) : Row (w.setCell ⟨c, i, none⟩ u) g ys := (Below.heap_setCell _ _ _ _ (by simpa using hne)).trans h
theorem Row.own {w : World} {base g : Nat} {ys : List Int} (h : Row w g ys) (hb : base ≤ g) (hm : ys.length ≤ maxLen) : Own w base (.slice (some ⟨g, 0, none⟩) ys.length ys.length) ys :=
  Own.of_block (rest := []) (by rw [List.append_nil]; exact h) hb (by simp) hm

/-- A slice of bytes copied onto a row. -/
theorem Row.copy {P : Program} {w : World} {g : Nat} {ys : List Int} (h : Row w g ys) {ao : Option Addr} {len cap : Nat} {xs : List Int} (hsl : Sl w ao len cap xs) (t : TypeId) (hu : P.underlying t = some (.slice 5)) (hs : (P.info? 5).map (·.size) = some 1) (ty : TypeId)
    (o dl dc : Nat) (hdl : len ≤ dl) (hfit : o + len ≤ ys.length) :
    ∃ w2, (Builtin.copy_ #[t, t] ty #[.slice (some ⟨g, o, none⟩) dl dc, .slice ao len cap]).run P w = .ok (.int .i64 (len : Int)) w2 ∧ Row w2 g (ys.take o ++ xs ++ ys.drop (o + len)) ∧ w.grownBy w2 (some g) ∧ w2.heap.size = w.heap.size := by
  obtain ⟨h1, h2, h3, h4, h5, h6⟩ := hsl
  by_cases hl : 0 < len
  · obtain ⟨b, off, rfl, hlt, hcell⟩ := h6 hl
    have hr := run_copy_row (P := P) w t t ty 5 g o dl dc ⟨b, off, none⟩ len cap _ 5 (bc xs) hu hs h (by rw [bc_length, h1]; exact (Nat.min_eq_left hdl).symm)
      (fun j v hj => by
        obtain ⟨hj1, rfl⟩ := bc_get xs j v hj
        rw [addr_add]
        exact hcell j (by omega)) (by rw [bc_length]; simp [bc]; omega) (bc_one xs)
    rw [show goInt (bc xs).length = .int .i64 (len : Int) from by simp [goInt, bc_length, h1]] at hr
    refine ⟨_, hr, ?_, ?_, by simp [World.setRow]⟩
    · unfold Row
      rw [setRow_heap _ _ _ _ _ _ h]
      congr 3
      simp [bc, h1]
    · exact ⟨rfl, rfl, rfl, by simp [World.setRow], fun k hk hne => setRow_other _ _ k _ (by simpa using hne)⟩
  · obtain rfl : len = 0 := by omega
    obtain rfl : xs = [] := List.eq_nil_of_length_eq_zero h1
    refine ⟨w, run_copy_none (P := P) _ t t ty 5 _ ao dl dc 0 cap hu hs (by simp), ?_, World.grownBy.refl _ _, rfl⟩
    simpa using h

theorem lay_snoc : ∀ (k : Nat) (kd : Int) (s : List Int), lay (k + 1) kd s = lay k kd s ++ ((if k = 0 then kd else 178) :: ((s.drop (31 * k)).take 31 ++ List.replicate (31 - ((s.drop (31 * k)).take 31).length) 0))
  | 0, kd, s => by simp [lay]
  | k + 1, kd, s => by
    rw [lay, lay_snoc k 178 (s.drop 31), lay, List.append_assoc]
    simp only [List.drop_drop]
    rw [show 31 + 31 * k = 31 * (k + 1) from by omega]
    congr 3
    split <;> simp

/-- So far the blocks are laid. -/
def laid (xs s : List Int) (K j : Nat) : List Int := xs ++ lay j 161 s ++ List.replicate (32 * (K - j)) 0
theorem laid_len (xs s : List Int) (K j : Nat) (h : j ≤ K) : (laid xs s K j).length = xs.length + 32 * K := by
  simp [laid, lay_len]; omega
theorem laid_step (xs s : List Int) (K j len : Nat) (hx : xs.length = len) (h : j < K) (kd : Int) (hk : kd = if j = 0 then 161 else 178) :
    ((laid xs s K j).set (len + 32 * j) kd).take (len + 32 * j + 1) ++ (s.drop (31 * j)).take 31 ++ ((laid xs s K j).set (len + 32 * j) kd).drop (len + 32 * j + 1 + ((s.drop (31 * j)).take 31).length) = laid xs s K (j + 1) := by
  have hl : (xs ++ lay j 161 s).length = len + 32 * j := by simp [lay_len, hx]
  have e1 : (laid xs s K j).set (len + 32 * j) kd = (xs ++ lay j 161 s) ++ (kd :: List.replicate (32 * (K - j) - 1) 0) := by
    unfold laid
    rw [show 32 * (K - j) = (32 * (K - j) - 1) + 1 from by omega, List.replicate_succ, List.set_append_right _ _ (by omega), hl, Nat.sub_self, List.set_cons_zero]
    simp
  have hp : ((s.drop (31 * j)).take 31).length ≤ 31 := by simp; omega
  rw [e1, laid, lay_snoc]
  generalize (s.drop (31 * j)).take 31 = p at *
  rw [List.take_append, List.drop_append, hl, List.take_of_length_le (by omega), List.drop_eq_nil_of_le (by omega)]
  rw [show len + 32 * j + 1 - (len + 32 * j) = 1 from by omega, show len + 32 * j + 1 + p.length - (len + 32 * j) = p.length + 1 from by omega]
  simp only [List.take_succ_cons, List.take_zero, List.drop_succ_cons, List.nil_append, List.drop_replicate, List.append_assoc, List.cons_append, List.singleton_append]
  rw [← hk]
  congr 4
  rw [List.replicate_append_replicate]
  congr 1
  omega
end Go.Proofs.YthfcjfhaoabdeaaGreatDoor

/-
  What Put does.
-/
set_option linter.unusedVariables false
set_option linter.unusedSimpArgs false
namespace Go.Proofs.YthfcjfhaoabdeaaGreatDoor
open Go.RowKit

/-- What Put answers. -/
def ptE (xs body : List Int) : Int := if ¬ xs.length % 32 = 0 then 2 else if 65536 < body.length then 40 else 0
def ptV (seq : Nat) (xs body : List Int) : List Int := if ptE xs body = 0 then xs ++ fra seq body else []

theorem sliced_at (g o l k c : Nat) (h : l < c) : Go.sliced (some ⟨g, o, none⟩) l k c 1 = .slice (some ⟨g, o + l, none⟩) (k - l) (c - l) := by
  unfold Go.sliced
  rw [if_neg (by omega)]
  simp [addr_add]

theorem madeRow (w : World) (n : Nat) : Row (w.alloc (.cells (madeCells #[.int .u8 0] n) 5)) w.heap.size (List.replicate n 0) := by
  unfold Row
  rw [heap_alloc_new]
  congr 2
  apply Array.toList_inj.1
  rw [toList_madeCells_one]
  simp [bc]

theorem gB {w w' : World} {g B : Nat} (h : w.grownBy w' (some g)) (hg : B ≤ g) (hB : B ≤ w.heap.size) : Below B w w' :=
  (Below.refl _ _).grown h hB fun k hk => by cases hk; exact hg
theorem gBox {w w' : World} {g b : Nat} {v : Value} {t : TypeId} (h : FBox w b v t) (hg : w.grownBy w' (some g)) (hne : b ≠ g) : FBox w' b v t := (hg.block b h.lt (by simpa using hne)).trans h

/-- How far the blocks are laid, and what the two closures keep. -/
structure Pj (w1 : World) (B : Nat) (xs s : List Int) (len K j : Nat) (wr : World) : Prop where
  row : Row wr B (laid xs s K j)
  b1 : ∃ v, FBox wr (B + 1) v 82 ∧ (j < K → v = .slice (some ⟨B, len + 32 * j, none⟩) (32 * (K - j)) (32 * (K - j)))
  b2 : FBox wr (B + 2) (.int .i64 32) 3
  b3 : ∃ a c, FBox wr (B + 3) (.slice a (s.length - 31 * j) c) 82 ∧ Sl w1 a (s.length - 31 * j) c (s.drop (31 * j))
  b4 : FBox wr (B + 4) (.int .i64 31) 3
  bel : Below B w1 wr
  size : B + 5 ≤ wr.heap.size

/-- What a round does: the block that is handed out, and its kind. -/
theorem Pj.one {w1 : World} {B : Nat} {xs s : List Int} {len K j : Nat} {wr : World} (h : Pj w1 B xs s len K j wr) (hx : xs.length = len) (hj : j < K) (kd : Int) (w3 : World)
    (hw3 : w3 = (wr.setCell ⟨B + 1, 0, none⟩ (Go.sliced (some ⟨B, len + 32 * j, none⟩) 32 (32 * (K - j)) (32 * (K - j)) 1)).setCell ⟨B, len + 32 * j, none⟩ (.int .u8 kd)) :
    Row w3 B ((laid xs s K j).set (len + 32 * j) kd) ∧ (∃ v, FBox w3 (B + 1) v 82 ∧ (j + 1 < K → v = .slice (some ⟨B, len + 32 * (j + 1), none⟩) (32 * (K - (j + 1))) (32 * (K - (j + 1))))) ∧ FBox w3 (B + 2) (.int .i64 32) 3 ∧
      (∃ a c, FBox w3 (B + 3) (.slice a (s.length - 31 * j) c) 82 ∧ Sl w1 a (s.length - 31 * j) c (s.drop (31 * j))) ∧ FBox w3 (B + 4) (.int .i64 31) 3 ∧ Below B w1 w3 ∧ B + 5 ≤ w3.heap.size := by
  obtain ⟨v, hb1, _⟩ := h.b1
  obtain ⟨a, c, hb3, hs3⟩ := h.b3
  subst hw3
  refine ⟨(h.row.other (by omega)).set _ _, ⟨_, (hb1.set _).other (by omega), fun hlt => ?_⟩, (h.b2.other (by omega)).other (by omega), ⟨a, c, (hb3.other (by omega)).other (by omega), hs3⟩, (h.b4.other (by omega)).other (by omega), (h.bel.setCell (by simp) _).setCell (by simp) _, by simpa [World.setCell] using h.size⟩
  rw [sliced_at _ _ _ _ _ (by omega), show len + 32 * j + 32 = len + 32 * (j + 1) from by omega, show 32 * (K - j) - 32 = 32 * (K - (j + 1)) from by omega]

/-- What a round does: the piece is copied into the block. -/
theorem Pj.two {w1 : World} {B : Nat} {xs s : List Int} {len K j : Nat} {w3 : World} (hB : B = w1.heap.size) (hx : xs.length = len) (hj : j < K) (hs : 31 * (K - 1) < s.length) (kd : Int) (hk : kd = if j = 0 then 161 else 178)
    (r1 : Row w3 B ((laid xs s K j).set (len + 32 * j) kd)) (r2 : ∃ v, FBox w3 (B + 1) v 82 ∧ (j + 1 < K → v = .slice (some ⟨B, len + 32 * (j + 1), none⟩) (32 * (K - (j + 1))) (32 * (K - (j + 1))))) (r3 : FBox w3 (B + 2) (.int .i64 32) 3)
    (a : Option Addr) (c : Nat) (r4 : FBox w3 (B + 3) (.slice a (s.length - 31 * j) c) 82) (r5 : Sl w1 a (s.length - 31 * j) c (s.drop (31 * j))) (r6 : FBox w3 (B + 4) (.int .i64 31) 3) (r7 : Below B w1 w3) (r8 : B + 5 ≤ w3.heap.size) :
    ∀ w4 : World, w4 = w3.drew.setCell ⟨B + 3, 0, none⟩ (Go.sliced a (min 31 (s.length - 31 * j)) (s.length - 31 * j) c 1) →
      ∃ a1 m w5, Go.sliced a 0 (min 31 (s.length - 31 * j)) c 1 = .slice a1 m c ∧ (Builtin.copy_ #[82, 82] 3 #[.slice (some ⟨B, len + 32 * j + 1, none⟩) 31 (32 * (K - j) - 1), .slice a1 m c]).run Tryz.prog w4 = .ok (.int .i64 (m : Int)) w5 ∧ Pj w1 B xs s len K (j + 1) w5 := by
  intro w4 hw4
  obtain ⟨a1, a2, e1, s1, e2, s2⟩ := r5.cutA (min 31 (s.length - 31 * j)) (by omega)
  have hml : min 31 (s.length - 31 * j) = ((s.drop (31 * j)).take 31).length := by simp
  have het : (s.drop (31 * j)).take (min 31 (s.length - 31 * j)) = (s.drop (31 * j)).take 31 := by
    by_cases hc : 31 ≤ s.length - 31 * j
    · rw [Nat.min_eq_left hc]
    · rw [Nat.min_eq_right (by omega), List.take_of_length_le (by simp), List.take_of_length_le (by simp; omega)]
  have hed : (s.drop (31 * j)).drop (min 31 (s.length - 31 * j)) = s.drop (31 * (j + 1)) := by
    rw [List.drop_drop]
    by_cases hc : 31 ≤ s.length - 31 * j
    · rw [Nat.min_eq_left hc]
      congr 1
    · rw [Nat.min_eq_right (by omega), List.drop_eq_nil_of_le (by omega), List.drop_eq_nil_of_le (by omega)]
  rw [het] at s1
  rw [hed] at s2
  have hm31 : min 31 (s.length - 31 * j) ≤ 31 := by omega
  have hls : s.length - 31 * (j + 1) = s.length - 31 * j - min 31 (s.length - 31 * j) := by omega
  generalize min 31 (s.length - 31 * j) = m at *
  have hb4 : Below B w1 w4 := by rw [hw4]; exact (below_drewN r7 1).setCell (by simp) _
  have hrow4 : Row w4 B ((laid xs s K j).set (len + 32 * j) kd) := by rw [hw4]; exact Row.other (w := w3.drew) r1 (by omega)
  have hll : ((laid xs s K j).set (len + 32 * j) kd).length = len + 32 * K := by rw [List.length_set, laid_len _ _ _ _ (by omega), hx]
  obtain ⟨w5, h5, hrow5, hg5, _⟩ := hrow4.copy (P := Tryz.prog) (s1.below (by rw [← hB]; exact hb4)) 82 Tryz.underlying82 (by kernel_rfl) 3 (len + 32 * j + 1) 31 (32 * (K - j) - 1) hm31 (by omega)
  refine ⟨a1, m, w5, e1, h5, ?_, ?_, ?_, ?_, ?_, ?_, ?_⟩
  · have := laid_step xs s K j len hx hj kd hk
    rw [← hml] at this
    rw [this] at hrow5
    exact hrow5
  · obtain ⟨v, q1, q2⟩ := r2
    refine ⟨v, gBox ?_ hg5 (by omega), q2⟩
    rw [hw4]
    exact FBox.other (w := w3.drew) q1 (by omega)
  · refine gBox ?_ hg5 (by omega)
    rw [hw4]
    exact FBox.other (w := w3.drew) r3 (by omega)
  · refine ⟨a2, c - m, gBox ?_ hg5 (by omega), by rw [hls]; exact s2⟩
    rw [hw4, e2, hls]
    exact FBox.set (w := w3.drew) r4 _
  · refine gBox ?_ hg5 (by omega)
    rw [hw4]
    exact FBox.other (w := w3.drew) r6 (by omega)
  · exact hb4.trans (gB hg5 (Nat.le_refl _) (by rw [hB]; exact hb4.size))
  · refine Nat.le_trans ?_ hg5.size
    rw [hw4]
    simpa [World.setCell] using r8
end Go.Proofs.YthfcjfhaoabdeaaGreatDoor

/-
  What Put does: the walk.
-/
set_option linter.unusedVariables false
set_option linter.unusedSimpArgs false
namespace Go.Proofs.YthfcjfhaoabdeaaGreatDoor
open Go.RowKit

/-- What Put leaves and answers. -/
def PtR (w : World) (seq : Nat) (xs body : List Int) (e : Ending) (w' : World) : Prop :=
  ∃ v, e = .returned (.tuple #[v, .int .i64 (ptE xs body)]) ∧ Own w' w.heap.size v (ptV seq xs body)

theorem fourBoxes (w : World) (o1 o2 o3 o4 : Obj) :
    let u := (((w.alloc o1).alloc o2).alloc o3).alloc o4
    u.heap[w.heap.size]? = some o1 ∧ u.heap[w.heap.size + 1]? = some o2 ∧ u.heap[w.heap.size + 2]? = some o3 ∧ u.heap[w.heap.size + 3]? = some o4 ∧ u.heap.size = w.heap.size + 4 ∧ Below w.heap.size w u := by
  intro u
  obtain ⟨h1, h2, h3⟩ := alloc2 w o1 o2
  obtain ⟨h4, h5, h6⟩ := alloc2 ((w.alloc o1).alloc o2) o3 o4
  have hb : Below ((w.alloc o1).alloc o2).heap.size ((w.alloc o1).alloc o2) u := ((Below.refl _ _).alloc (Nat.le_refl _) _).alloc (by simp) _
  rw [h3] at h4 h5 h6 hb
  have hb0 : Below w.heap.size w ((w.alloc o1).alloc o2) := ((Below.refl _ _).alloc (Nat.le_refl _) _).alloc (by simp) _
  exact ⟨(hb.block _ (by omega)).trans h1, (hb.block _ (by omega)).trans h2, h4, h5, h6, hb0.trans (hb.mono (by omega))⟩

set_option maxHeartbeats 4000000 in
theorem fput_any (ao : Option Addr) (len cap : Nat) (xs : List Int) (seq : Int) (bo : Option Addr) (bl bcap : Nat) (body : List Int) (w : World) (h : Sl w ao len cap xs) (hbd : Sl w bo bl bcap body) (h0 : 0 ≤ seq) (h1 : seq ≤ 18446744073709551615) (hl : len + 100000 ≤ 281474976710656) :
    Calls Tryz.prog 234 #[.slice ao len cap, .int .u64 seq, .slice bo bl bcap] w fun e w' => PtR w seq.toNat xs body e w' ∧ Below w.heap.size w w' := by
  obtain ⟨i0, hi, hz0, hz1, hz2⟩ := info_parts Tryz.infoU8
  have hx := h.1
  have hbx := hbd.1
  have hlen : (len : Int) ≤ 281474976710656 := by omega
  have hbl : (bl : Int) ≤ 9223372036854775807 := by have := hbd.2.1; have := hbd.2.2.1; unfold maxLen at this; omega
  have hnil : Own w w.heap.size (.slice none 0 0) [] := World.ownsRow_nil _ _ _ _
  by_cases hm : ¬ (len : Int) % 32 = 0
  · have hE : Hid (ptE xs body = 2) := by unfold Hid ptE; rw [if_pos (by omega)]
    have hV : Hid (ptV seq.toNat xs body = []) := by unfold Hid ptV; rw [hE.out, if_neg (by decide)]
    have hr1 : ((len : Int) % 32 == 0) = false := by simpa using hm
    have hr2 : ((len : Int) % 32 != 0) = true := by simpa using hm
    go_enter Tryz.func234, Tryz.ntmps234
    go_wp2
    go_ret2
    exact ⟨⟨_, by rw [hE.out]; rfl, by rw [hV.out]; exact hnil⟩, Below.refl _ _⟩
  have hm' : (len : Int) % 32 = 0 := by omega
  have hr1 : ((len : Int) % 32 == 0) = true := by simpa using hm'
  have hr2 : ((len : Int) % 32 != 0) = false := by simpa using hm'
  clear hm
  by_cases hbig : 65536 < bl
  · have hE : Hid (ptE xs body = 40) := by unfold Hid ptE; rw [if_neg (by omega), if_pos (by omega)]
    have hV : Hid (ptV seq.toNat xs body = []) := by unfold Hid ptV; rw [hE.out, if_neg (by decide)]
    have hbi : (65536 : Int) < (bl : Int) := by omega
    go_enter Tryz.func234, Tryz.ntmps234
    go_wp2
    go_ret2
    exact ⟨⟨_, by rw [hE.out]; rfl, by rw [hV.out]; exact hnil⟩, Below.refl _ _⟩
  have hbi : ¬ (65536 : Int) < (bl : Int) := by omega
  have hE : Hid (ptE xs body = 0) := by unfold Hid ptE; rw [if_neg (by omega), if_neg (by omega)]
  have hV : Hid (ptV seq.toNat xs body = xs ++ lay (nb bl) 161 (st seq.toNat body)) := by unfold Hid ptV fra; rw [hE.out, if_pos rfl, hbx]
  have hstl : (st seq.toNat body).length = bl + 20 := by rw [st_len, hbx]
  have hstb := st_byt seq.toNat hbd.2.2.2.1
  have hge := nb_ge bl
  have hlt := nb_lt bl
  have hpos := nb_pos bl
  have hmk : ∀ u : World, (Instr.makeSlice 82 (.int .i64 ((len : Int) + (nb bl : Int) * 32)) (.int .i64 ((len : Int) + (nb bl : Int) * 32))).run Tryz.prog u = .ok (.slice (some ⟨u.heap.size, 0, none⟩) (len + 32 * nb bl) (len + 32 * nb bl)) (u.alloc (.cells (madeCells #[.int .u8 0] (len + 32 * nb bl)) 5)) := by
    intro u
    have := run_make (P := Tryz.prog) u 82 5 i0 (.int .u8 0) Tryz.underlying82 hi hz0 .i64 .i64 ((len : Int) + (nb bl : Int) * 32) ((len : Int) + (nb bl : Int) * 32) (by omega) (by omega) (by rw [hz2]; omega) (by omega)
    rw [this, hz1]
    have e1 : ((len : Int) + (nb bl : Int) * 32).toNat = len + 32 * nb bl := by omega
    simp only [e1, Nat.mul_one, Value.cells]
  have hblk : ∀ u : World, Calls Tryz.prog 160 #[.int .i64 ((bl + 20 : Nat) : Int)] u fun e w' => e = .returned (.int .i64 ((nb bl : Nat) : Int)) ∧ w' = u := fun u => blocksOf_any (bl + 20) u (by omega)
  generalize hss : st seq.toNat body = s at *
  generalize hKK : nb bl = K at *
  replace hss := hF hss
  replace hKK := hF hKK
  go_enter Tryz.func234, Tryz.ntmps234
  go_wp2_with fail
  refine (unblocked_any bo bl bcap body seq w hbd h0 h1 (by omega)).mono ?_
  rintro e w1 ⟨v1, rfl, hown, hb1⟩
  rw [hss.out] at hown
  obtain ⟨a1, l1, c1, rfl, hsl1, _⟩ := hown.sl' hstb
  obtain rfl : l1 = bl + 20 := by have := hsl1.1; omega
  have hA1 := h.below hb1
  clear hown h hbd
  go_wp2_with fail
  refine (hblk w1).mono ?_
  rintro e w1' ⟨rfl, rfl⟩
  clear hblk
  obtain ⟨B, hB⟩ : ∃ B, B = w1'.heap.size := ⟨_, rfl⟩
  have hrow0 := madeRow w1' (len + 32 * K)
  have hbm : Below w1'.heap.size w1' (w1'.alloc (.cells (madeCells #[.int .u8 0] (len + 32 * K)) 5)) := (Below.refl _ _).alloc (Nat.le_refl _) _
  obtain ⟨w2, hcp, hrow2, hg2, hs2⟩ := hrow0.copy (P := Tryz.prog) (hA1.below hbm) 82 Tryz.underlying82 (by kernel_rfl) 3 0 (len + 32 * K) (len + 32 * K) (by omega) (by simp)
  replace hs2 : w2.heap.size = w1'.heap.size + 1 := by rw [hs2]; simp
  have hb12 : Below w1'.heap.size w1' w2 := hbm.trans (gB hg2 (Nat.le_refl _) (by simp))
  have hsl40 := slice_l (P := Tryz.prog) 82 Tryz.underlying82 Tryz.size5 (some ⟨w1'.heap.size, 0, none⟩) (len + 32 * K) (len + 32 * K) len (by omega)
  rw [sliced_at _ _ _ _ _ (by omega), show len + 32 * K - len = 32 * K from by omega, Nat.zero_add] at hsl40
  have hrow2' : Row w2 w1'.heap.size (laid xs s K 0) := by
    have e : laid xs s K 0 = (List.replicate (len + 32 * K) 0).take 0 ++ xs ++ (List.replicate (len + 32 * K) 0).drop (0 + len) := by
      simp [laid, lay]
    rw [e]
    exact hrow2
  go_wp2_with fail
  refine (cut_any (some ⟨w1'.heap.size, len, none⟩) (32 * K) (32 * K) 32 w2).mono ?_
  rintro e w3 ⟨rfl, hw3⟩
  replace hw3 := hF hw3
  replace hs2 := hF hs2
  go_wp2_with fail
  refine (cut_any a1 (bl + 20) c1 31 w3).mono ?_
  rintro e w4 ⟨rfl, hw4⟩
  have h5 := fourBoxes w2 (.cells #[.slice (some ⟨w1'.heap.size, len, none⟩) (32 * K) (32 * K)] 82) (.cells #[.int .i64 ((32 : Nat) : Int)] 3) (.cells #[.slice a1 (bl + 20) c1] 82) (.cells #[.int .i64 ((31 : Nat) : Int)] 3)
  replace hw3 := hw3.out
  replace hs2 := hs2.out
  have hs3 : w3.heap.size = w2.heap.size + 2 := by rw [hw3]; simp
  rw [← hw3, ← hw4] at h5
  obtain ⟨q1, q2, q3, q4, q5, q6⟩ := h5
  rw [hs3, hs2]
  rw [hs2] at q1 q2 q3 q4 q5 q6
  have hP : Pj w1' w1'.heap.size xs s len K 0 w4 := by
    refine ⟨hrow2'.below q6 (by omega), ⟨_, q1, fun _ => by simp⟩, q2, ⟨a1, c1, ?_, ?_⟩, q4, hb12.trans (q6.mono (by omega)), by omega⟩
    · rw [hstl]; exact q3
    · rw [hstl]; simpa using hsl1
  have hbw : Below w.heap.size w w1' := hb1
  have hK31 : 31 * (K - 1) < s.length := by omega
  clear hw3 hw4 q1 q2 q3 q4 q5 q6 hs3 hs2 hcp hrow0 hrow2 hrow2' hg2 hb12 hbm hmk hsl1 hsl40 hA1 hnil hB B
  unfold ctF
  generalize hB : w1'.heap.size = B at *
  replace hB := hF hB
  have hKi : (K : Int) ≤ 3000 := by omega
  go_wp2
  go_loopw [13, 14, 45] (fun kd _ i wr => ∃ (j : Nat) (k : Int), j ≤ K ∧ i = .int .i64 (j : Int) ∧ kd = .int .u8 k ∧ Hid (k = if j = 0 then 161 else 178) ∧ Pj w1' B xs s len K j wr) (fun _ _ i _ => K - (intOf i).toNat)
  case atStart => exact ⟨0, 161, by omega, rfl, rfl, rfl, hP⟩
  case round =>
    obtain ⟨j, k, hj, rfl, rfl, hk, hP⟩ := hrel
    by_cases hlt : j < K
    · have hlti : (j : Int) < (K : Int) := by omega
      obtain ⟨v, hb1, hv⟩ := hP.b1
      obtain rfl := hv hlt
      go_wp2_with fail
      refine (cut1_any (B + 2) (B + 1) 32 (32 * (K - j)) (32 * (K - j)) (some ⟨B, len + 32 * j, none⟩) wr (Nat.le_refl _) (by unfold maxLen; omega) (by omega) hP.b2.cell hb1.cell hb1.free).mono ?_
      rintro e w5 ⟨rfl, hw5⟩
      rw [Nat.min_eq_left (by omega)] at hw5 ⊢
      rw [sliced_at _ _ 0 _ _ (by omega), Nat.add_zero, Nat.sub_zero, Nat.sub_zero]
      have hrow5 : Row w5 B (laid xs s K j) := by rw [hw5]; exact hP.row.other (by omega)
      have hll : (laid xs s K j).length = len + 32 * K := by rw [laid_len _ _ _ _ hj, hx]
      have hc5 := hrow5.cell (len + 32 * j) (by omega)
      have hf5 := hrow5.free (len + 32 * j)
      generalize (laid xs s K j).getD (len + 32 * j) 0 = old at hc5
      obtain ⟨w6, hw6⟩ : ∃ w6, w6 = w5.setCell ⟨B, len + 32 * j, none⟩ (.int .u8 k) := ⟨_, rfl⟩
      obtain ⟨r1, r2, r3, ⟨a, c, r4, r5⟩, r6, r7, r8⟩ := hP.one hx hlt k w6 (by rw [hw6, hw5])
      have HC := hF (Pj.two (w3 := w6) hB.out.symm hx hlt hK31 k hk.out r1 r2 r3 a c r4 r5 r6 r7 r8)
      have hcl := hF (cut1_any (B + 4) (B + 3) 31 (s.length - 31 * j) c a w6.drew r5.2.1 r5.2.2.1 (by omega) (FBox.cell (w := w6.drew) r6) (FBox.cell (w := w6.drew) r4) (FBox.free (w := w6.drew) r4))
      have hs1 := slice_l (P := Tryz.prog) 82 Tryz.underlying82 Tryz.size5 (some ⟨B, len + 32 * j, none⟩) 32 (32 * (K - j)) 1 (by omega)
      rw [sliced_at _ _ _ _ _ (by omega)] at hs1
      replace hs1 : ∀ u : World, (Instr.slice 82 (.slice (some ⟨B, len + 32 * j, none⟩) 32 (32 * (K - j))) (some (.int .i64 1)) none none).run Tryz.prog u = .ok (.slice (some ⟨B, len + 32 * j + 1, none⟩) 31 (32 * (K - j) - 1)) u := hs1
      replace hw6 := hF hw6
      clear r1 r2 r3 r4 r5 r6 r7 r8 hw5 hrow5 hP hb1 hll
      go_wp2
      rw [← hw6.out]
      clear hc5 hf5
      go_region_with (go_at_call 238; refine hcl.out.mono ?_; rintro e w7 ⟨rfl, hw7⟩; obtain ⟨a7, m7, w8, e7, hcp, hP2⟩ := HC.out w7 hw7; rw [e7]; clear hw7 e7)
      all_goals
        have hk2 : Hid ((178 : Int) = if j + 1 = 0 then 161 else 178) := by unfold Hid; rw [if_neg (by omega)]
        clear hcl HC hcp hs1
        go_wp2
        go_roundw
        case rel => exact ⟨j + 1, 178, by omega, by go_num, rfl, hk2, hP2⟩
        case measure => simp [intOf]; omega
    · have hlti : ¬ (j : Int) < (K : Int) := by omega
      obtain rfl : j = K := by omega
      have hrow := hP.row
      have hbel := hP.bel
      have hs1 := hbw.size
      have hB' := hB.out
      have e1 : laid xs s j j = xs ++ lay j 161 s := by simp [laid]
      rw [e1] at hrow
      have hlen2 : (xs ++ lay j 161 s).length = len + 32 * j := by simp [lay_len, hx]
      have hown := hrow.own (base := w.heap.size) (by omega) (by rw [hlen2]; unfold maxLen; omega)
      rw [hlen2] at hown
      have hfin : Below w.heap.size w wr := hbw.trans (hbel.mono (by omega))
      replace hown := hF hown
      clear hrow hP hbel e1 hlen2
      go_wp2
      go_ret2
      exact ⟨⟨_, by rw [hE.out]; rfl, by rw [hV.out]; exact hown.out⟩, hfin⟩
end Go.Proofs.YthfcjfhaoabdeaaGreatDoor
