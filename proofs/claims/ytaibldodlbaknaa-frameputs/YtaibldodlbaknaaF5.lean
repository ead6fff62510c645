/-
  What joined does: the pieces of the frame with which bytes begin.
-/
import Derived.Test.YtaibldodlbaknaaF4
import Derived.Lib.SmallJoins
import Derived.WalkMore
import Derived.Deep.LoopGhost
set_option linter.unusedVariables false
set_option linter.unusedSimpArgs false
namespace Go.Proofs.Ytaibldodlbaknaa
open Go.RowKit

/-- A box that holds one thing. -/
def Box (w : World) (b : Nat) (v : Value) (t : TypeId) : Prop := w.heap[b]? = some (.cells #[v] t (0, 0))
theorem Box.cell {w : World} {b : Nat} {v : Value} {t : TypeId} (h : Box w b v t) : w.cell? ⟨b, 0, none⟩ = some v := by
  rw [Go.Joins.cell_of_block h]; rfl
theorem Box.free {w : World} {b : Nat} {v : Value} {t : TypeId} (h : Box w b v t) : w.frozen? ⟨b, 0, none⟩ = false := Go.Joins.unfrozen_of_block h 0
theorem Box.lt {w : World} {b : Nat} {v : Value} {t : TypeId} (h : Box w b v t) : b < w.heap.size := (Array.getElem?_eq_some_iff.1 h).1
theorem Box.set {w : World} {b : Nat} {v : Value} {t : TypeId} (h : Box w b v t) (u : Value) : Box (w.setCell ⟨b, 0, none⟩ u) b u t := by
  unfold Box at *
  rw [Go.Joins.block_setCell h]; rfl
theorem Box.below {B : Nat} {w w' : World} {b : Nat} {v : Value} {t : TypeId} (h : Box w b v t) (hb : Below B w w') (hB : b < B) : Box w' b v t := (hb.block b hB).trans h
theorem Box.other {w : World} {b c i : Nat} {v u : Value} {t : TypeId} (h : Box w b v t) (hne : b ≠ c) : Box (w.setCell ⟨c, i, none⟩ u) b v t := (Below.heap_setCell _ _ _ _ (by simpa using hne)).trans h

theorem alloc2 (w : World) (o1 o2 : Obj) : ((w.alloc o1).alloc o2).heap[w.heap.size]? = some o1 ∧ ((w.alloc o1).alloc o2).heap[w.heap.size + 1]? = some o2 ∧ ((w.alloc o1).alloc o2).heap.size = w.heap.size + 2 := by
  have e1 : (w.alloc o1).heap.size = w.heap.size + 1 := by simp
  refine ⟨?_, ?_, by simp⟩
  · exact (Below.heap_alloc _ _ _ (by omega)).trans (heap_alloc_new w o1)
  · rw [← e1]
    exact heap_alloc_new (w.alloc o1) o2

theorem Own.other {w : World} {base g i : Nat} {v u : Value} {xs : List Int} (h : Own w base v xs) (hg : g < base) : Own (w.setCell ⟨g, i, none⟩ u) base v xs := by
  refine World.ownsRow.kept h (row := some g) ⟨rfl, rfl, rfl, by simp [World.setCell], fun k hk hne => Below.heap_setCell _ _ _ _ (by simpa using hne)⟩ ?_
  cases hv : v.ownBlock with
  | none => exact .inl rfl
  | some j =>
    right
    have := (World.ownsRow.lt h j hv).1
    intro e
    simp only [Option.some.injEq] at e
    omega
theorem Own.weak {w : World} {base base' : Nat} {v : Value} {xs : List Int} (h : Own w base v xs) (hb : base' ≤ base) : Own w base' v xs := by
  refine ⟨h.1, ?_⟩
  rcases h.2 with hn | ⟨g, cap, cur, rfl, hg, rest⟩
  · exact .inl hn
  · exact .inr ⟨g, cap, cur, rfl, by omega, rest⟩

/-- What must hold of the blocks, ahead of the frame's sum. -/
def Head (x : List Int) : Prop := nOf x ≤ 65536 ∧ 32 * nb (nOf x) ≤ x.length ∧ kds (nb (nOf x)) 161 x = true ∧ Ends ((sOf x).take 16)

theorem sOf16 {x : List Int} (h : 32 ≤ x.length) : (sOf x).take 16 = (x.drop 1).take 16 := by
  have := pcs_head (nb (nOf x)) x (nb_pos _) 0 16 (by omega) h
  rw [List.drop_zero] at this
  exact this
theorem head_short0 {x : List Int} (h : x.length < 32) : ¬ Head x := fun g => by
  have := g.2.1
  have := nb_pos (nOf x)
  omega
theorem head_short {x : List Int} {j : Nat} (h : x.length < 32 * (j + 1)) (hj : j < nb (nOf x)) : ¬ Head x := fun g => by
  have := g.2.1
  omega
theorem head_kind {x : List Int} {j : Nat} {kd : Int} (hj : j < nb (nOf x)) (hk : kd = if j = 0 then 161 else 178) (h : x.getD (32 * j) 0 ≠ kd) : ¬ Head x := fun g => h (by rw [hk]; exact kds_at _ _ _ g.2.2.1 j hj)
theorem head_sum {x : List Int} (hx : 32 ≤ x.length) (h : ¬ (nOf x ≤ 65536 ∧ Ends ((x.drop 1).take 16))) : ¬ Head x := fun g => h ⟨g.1, by rw [← sOf16 hx]; exact g.2.2.2⟩

/-- How far joined is, behind j blocks. -/
def Jd (x : List Int) (j : Nat) (kd en : Int) : Prop :=
  kds j 161 x = true ∧ (j = 0 ∧ kd = 161 ∧ en = 16 ∨ 1 ≤ j ∧ kd = 178 ∧ en = ((nOf x + 20 : Nat) : Int) ∧ nOf x ≤ 65536 ∧ Ends ((x.drop 1).take 16) ∧ j ≤ nb (nOf x))

theorem blk_at (x : List Int) (j : Nat) : ((x.drop (32 * j)).take 32).getD 0 0 = x.getD (32 * j) 0 := by
  simp only [List.getD]
  rw [List.getElem?_take_of_lt (by omega), List.getElem?_drop]
  simp
theorem blk_tail (x : List Int) (j : Nat) : ((x.drop (32 * j)).take 32).drop 1 = ((x.drop (32 * j)).drop 1).take 31 := by
  rw [List.drop_take]

theorem Sl.cutA {w : World} {a : Option Addr} {l c : Nat} {xs : List Int} (h : Sl w a l c xs) (m : Nat) (hm : m ≤ l) :
    ∃ a1 a2, Go.sliced a 0 m c 1 = .slice a1 m c ∧ Sl w a1 m c (xs.take m) ∧ Go.sliced a m l c 1 = .slice a2 (l - m) (c - m) ∧ Sl w a2 (l - m) (c - m) (xs.drop m) := by
  obtain ⟨a1, e1, s1⟩ := h.sliced 0 m (Nat.zero_le _) hm
  obtain ⟨a2, e2, s2⟩ := h.sliced m l hm (Nat.le_refl _)
  have hx := h.1
  rw [List.take_of_length_le (by omega)] at s2
  exact ⟨a1, a2, e1, by simpa using s1, e2, s2⟩

set_option maxHeartbeats 4000000 in
theorem joined_any (ao : Option Addr) (len cap : Nat) (x : List Int) (w : World) (h : Sl w ao len cap x) :
    Calls Try.prog 25 #[.slice ao len cap] w fun e w' => Below w.heap.size w w' ∧
      (Head x ∧ (∃ v, e = .returned (.tuple #[v, .int .i64 ((nOf x + 20 : Nat) : Int)]) ∧ Own w' w.heap.size v (sOf x)) ∨ ¬ Head x ∧ e = .returned (.tuple #[.slice none 0 0, .int .i64 0])) := by
  obtain ⟨i0, hi, hz0, hz1, hz2⟩ := info_parts Try.info5
  have hx := h.1
  have hbyt := h.2.2.2.1
  have hcm := h.2.2.1
  have hlc := h.2.1
  have hlen : (len : Int) ≤ 9223372036854775807 := by unfold maxLen at hcm; omega
  obtain ⟨B, hB⟩ : ∃ B, B = w.heap.size := ⟨_, rfl⟩
  go_enter Try.func25, Try.ntmps25
  go_wp2
  go_step3
  go_wp2_with fail
  refine (cut_any ao len cap 32 w).mono ?_
  rintro e w0 ⟨rfl, hw0⟩
  obtain ⟨hA1, hA2, hA3⟩ := alloc2 w (.cells #[.slice ao len cap] 22) (.cells #[.int .i64 ((32 : Nat) : Int)] 3)
  have hb0 : Below w.heap.size w w0 := by rw [hw0]; exact ((Below.refl _ _).alloc (Nat.le_refl _) _).alloc (by simp) _
  rw [← hw0] at hA1 hA2 hA3
  rw [← hB] at hA1 hA2 hA3 hb0 ⊢
  clear hw0
  have hown0 : Own w0 (B + 2) (.slice none 0 0) (pcs 0 x) := World.ownsRow_nil _ _ _ _
  have hj0 : Jd x 0 161 16 := ⟨rfl, .inl ⟨rfl, rfl, rfl⟩⟩
  unfold ctF
  replace hB := hF hB
  go_wp2
  go_step3
  go_wp2
  go_loopg [4, 5, 6, 8, 9, 10] 3000 (fun q v kd en _ _ _ wr => ∃ (j : Nat) (k n : Int) (a : Option Addr) (c : Nat), q + j = 3000 ∧ 32 * j ≤ len ∧ kd = .int .u8 k ∧ en = .int .i64 n ∧ Jd x j k n ∧ Own wr (B + 2) v (pcs j x) ∧ Box wr (B + 1) (.int .i64 32) 3 ∧ Box wr B (.slice a (len - 32 * j) c) 22 ∧ Sl w a (len - 32 * j) c (x.drop (32 * j)) ∧ Below B w wr ∧ B + 2 ≤ wr.heap.size)
  case atStart => exact ⟨0, 161, 16, ao, cap, rfl, by omega, rfl, rfl, hj0, hown0, hA2, hA1, by simpa using h, hb0, by omega⟩
  case round =>
    obtain ⟨j, k, n, a, c, hq, hjl, rfl, rfl, ⟨hkds, hJ⟩, hown, hbx1, hbx0, hsl, hbel, hsz⟩ := hrel
    have hpl := pcs_len j x (by omega)
    obtain ⟨av, lv, cv, rfl, hslv, _⟩ := hown.sl' (pcs_byt j x hbyt)
    obtain ⟨E, hE⟩ : ∃ E : Nat, n = (E : Int) ∧ E ≤ 70000 := by
      rcases hJ with ⟨_, _, rfl⟩ | ⟨_, _, rfl, h4, _⟩
      · exact ⟨16, rfl, by omega⟩
      · exact ⟨_, rfl, by omega⟩
    obtain ⟨rfl, hEb⟩ := hE
    have hlv : lv = 31 * j := by have := hslv.1; omega
    have hcj := hsl.2.1
    have hcmj := hsl.2.2.1
    clear hslv hA1 hA2 hA3 hb0 hown0 hj0
    by_cases hex : E ≤ lv
    · rcases hJ with hJ | ⟨h1, rfl, hEn, hJ1, hJ2, hJ3⟩
      · omega
      have hge := nb_ge (nOf x)
      have hlt := nb_lt (nOf x)
      have hjn : j = nb (nOf x) := by omega
      have HH : Hid (Head x) := ⟨hJ1, by rw [hx, ← hjn]; exact hjl, by rw [← hjn]; exact hkds, by rw [sOf16 (x := x) (by omega)]; exact hJ2⟩
      have HO : Hid (Own wr B (.slice av lv cv) (sOf x)) := by
        have := hown.weak (base' := B) (by omega)
        rw [hjn] at this
        exact this
      have hEn2 : Hid (E = nOf x + 20) := by unfold Hid; omega
      have hdi : ¬ (lv : Int) < (E : Int) := by omega
      have hdn : ¬ lv < E := by omega
      have hd : decide ((lv : Int) < (E : Int)) = false := by simp; omega
      clear hown hbx1 hbx0 hsl hEn hJ2 hkds h hpl hjn hlv
      go_wp2
      try rw [Exit.noGoto_ret]
      go_ret2
      have hB' := hB.out
      exact ⟨by rw [← hB']; exact hbel, .inl ⟨HH.out, _, by rw [hEn2.out]; rfl, by rw [← hB']; exact HO.out⟩⟩
    have hjn : j < nb (nOf x) := by
      have hge := nb_ge (nOf x)
      have := nb_pos (nOf x)
      rcases hJ with ⟨rfl, _⟩ | ⟨h1, rfl, hEn, hJ1, hJ2, hJ3⟩ <;> omega
    have hkk : k = if j = 0 then 161 else 178 := by
      rcases hJ with ⟨rfl, rfl, _⟩ | ⟨h1, rfl, _⟩
      · rfl
      · rw [if_neg (by omega)]
    have hdi : (lv : Int) < (E : Int) := by omega
    have hdn : lv < E := by omega
    have hd : decide ((lv : Int) < (E : Int)) = true := by simp; omega
    generalize hL : len - 32 * j = L at *
    replace hL := hF hL
    replace hlv := hF hlv
    replace hkk := hF hkk
    go_wp2_with fail
    refine (cut1_any (B + 1) B 32 L c a wr hcj hcmj (by omega) hbx1.cell hbx0.cell hbx0.free).mono ?_
    rintro e w1 ⟨rfl, hw1⟩
    by_cases hs : L < 32
    · obtain ⟨a1, a2, e1, s1, e2, s2⟩ := hsl.cutA L (Nat.le_refl _)
      rw [Nat.min_eq_right (by omega)] at hw1 ⊢
      rw [e1]
      have hb1 : Below B w w1 := by rw [hw1]; exact hbel.setCell (Nat.le_refl _) _
      have HN : Hid (¬ Head x) := head_short (j := j) (by have := hL.out; omega) hjn
      have hLi : (L : Int) < 32 := by omega
      have hLd : decide ((L : Int) < 32) = true := by simp; omega
      have hLd2 : decide (L < 32) = true := by simp; omega
      clear hw1 hown hbx1 hbx0 hsl e1 e2 s1 s2 hbel hpl hkds hJ hkk hjn h
      go_wp2
      try rw [Exit.noGoto_ret]
      go_ret2
      have hB' := hB.out
      exact ⟨by rw [← hB']; exact hb1, .inr ⟨HN.out, rfl⟩⟩
    obtain ⟨a1, a2, e1, s1, e2, s2⟩ := hsl.cutA 32 (by omega)
    rw [Nat.min_eq_left (by omega)] at hw1 ⊢
    rw [e1]
    rw [e2] at hw1
    have hb1 : Below B w w1 := by rw [hw1]; exact hbel.setCell (Nat.le_refl _) _
    have hown1 : Own w1 (B + 2) (.slice av lv cv) (pcs j x) := by rw [hw1]; exact hown.other (by omega)
    have hbx1' : Box w1 (B + 1) (.int .i64 32) 3 := by rw [hw1]; exact hbx1.other (by omega)
    have hbx0' : Box w1 B (.slice a2 (L - 32) (c - 32)) 22 := by rw [hw1]; exact hbx0.set _
    have hsz1 : B + 2 ≤ w1.heap.size := by rw [hw1]; simpa [World.setCell] using hsz
    have hsL : Hid (len - 32 * (j + 1) = L - 32) := by unfold Hid; have := hL.out; omega
    have hdr : (x.drop (32 * j)).drop 32 = x.drop (32 * (j + 1)) := by rw [List.drop_drop, show 32 * j + 32 = 32 * (j + 1) from by omega]
    rw [hdr] at s2
    have hB' := hB.out
    have s1w : Sl w1 a1 32 c ((x.drop (32 * j)).take 32) := s1.below (by rw [← hB']; exact hb1)
    obtain ⟨b, off, rfl, hblt, hcell⟩ := s1w.2.2.2.2.2 (by omega)
    have hc0 := hcell 0 (by omega)
    rw [blk_at, Nat.add_zero] at hc0
    have hfb := hbyt.getD (32 * j)
    have hlk : x.getD (32 * j) 0 ≠ k → ¬ Head x := fun hne => head_kind hjn hkk.out hne
    have hk1 : x.getD (32 * j) 0 = k → kds (j + 1) 161 x = true := fun e => by
      rw [kds_snoc, hkds, Bool.true_and, beq_iff_eq]
      simp only [List.getD, List.getElem?_drop, Nat.add_zero] at e ⊢
      rw [e]
      exact hkk.out
    generalize x.getD (32 * j) 0 = f at *
    obtain ⟨a3, hs3, s3⟩ := s1w.from (P := Try.prog) 22 Try.underlying22 Try.size5 1 (by omega)
    rw [blk_tail] at s3
    replace hs3 : ∀ u : World, (Instr.slice 22 (.slice (some ⟨b, off, none⟩) 32 c) (some (.int .i64 1)) none none).run Try.prog u = .ok (.slice a3 31 (c - 1)) u := hs3
    replace s3 : Sl w1 a3 31 (c - 1) (((x.drop (32 * j)).drop 1).take 31) := s3
    by_cases hf : f = k
    · have hk2 := hF (hk1 hf)
      subst hf
      clear hlk hk1 hw1 hcell s1w s1 e1 e2 hown hbx1 hbx0 hsl hbel h hkds hdr hB'
      rcases hJ with ⟨rfl, rfl, hE16⟩ | ⟨h1, rfl, hEn, hJ1, hJ2, hJ3⟩
      · have hx32 : 32 ≤ x.length := by have := hL.out; omega
        replace hE16 : Hid (E = 16) := by unfold Hid; omega
        clear hkk
        go_wp2_with fail
        refine (bodySize_any a3 31 (c - 1) _ w1 s3 (by omega)).mono ?_
        rintro e w2 ⟨hb2, m, hm, hres⟩
        have e16 : ((((x.drop (32 * 0)).drop 1).take 31).take 16) = (x.drop 1).take 16 := by
          rw [List.take_take, Nat.min_eq_left (by omega)]
          simp
        have en : m = nOf x := by
          rw [hm]
          unfold nOf
          congr 1
          rw [Nat.mul_zero, List.drop_zero, List.drop_take, List.take_take, List.drop_drop]
          rfl
        rw [e16, en] at hres
        clear hm e16
        have hb2' : Below B w w2 := hb1.trans (hb2.mono (by omega))
        rcases hres with ⟨⟨hn1, hn2⟩, rfl⟩ | ⟨hno, rfl⟩
        · have hown2 : Own w2 (B + 2) (.slice av lv cv) [] := hown1.up hb2
          have s3' : Sl w2 a3 31 (c - 1) ((x.drop 1).take 31) := by
            have := s3.below hb2
            rw [Nat.mul_zero, List.drop_zero] at this
            exact this
          have e1x : pcs 1 x = (x.drop 1).take 31 := by simp [pcs]
          replace e1x := hF e1x
          have hsz2 : B + 2 ≤ w2.heap.size := Nat.le_trans hsz1 hb2.size
          have hbx12 := hF (hbx1'.below hb2 (by omega))
          have hbx02 := hF (hbx0'.below hb2 (by omega))
          have hJn : Hid (Jd x 1 178 ((nOf x + 20 : Nat) : Int)) := ⟨hk2.out, .inr ⟨Nat.le_refl _, rfl, rfl, hn1, hn2, nb_pos _⟩⟩
          obtain ⟨M, hM⟩ : ∃ M, M = nOf x := ⟨_, rfl⟩
          rw [← hM] at hJn hn1 ⊢
          have hMi : (M : Int) ≤ 65536 := by omega
          replace hM := hF hM
          clear hown1 hbx1' hbx0' s3 hb2 en hk2 hn2 hn1
          go_wp2_with (first | (at_builtin; refine wpList_append_sl rfl _ _ 22 rfl (B + 2) i0 Try.underlying22 hi hz0 hz1 hz2 _ _ rfl hown2 a3 31 (c - 1) _ rfl s3' (by simp) hsz2 ?_) | fail)
          intro v3 w3 hown3 hb3
          have hown4 : Own w3 (B + 2) v3 (pcs 1 x) := by rw [e1x.out]; simpa using hown3
          have hb3' : Below B w w3 := hb2'.trans (hb3.mono (by omega))
          have hbx13 := hbx12.out.below hb3 (by omega)
          have hbx03 := hbx02.out.below hb3 (by omega)
          have hsz3 : B + 2 ≤ w3.heap.size := Nat.le_trans hsz2 hb3.size
          replace hbx13 := hF hbx13
          replace hbx03 := hF hbx03
          clear hown2 hown3 hb3 s3' hb2' hbx12 hbx02
          go_wp2
          go_roundg (gk - 1)
          case measure => omega
          case rel => exact ⟨1, 178, ((M + 20 : Nat) : Int), a2, c - 32, by omega, by have := hL.out; omega, rfl, by go_num, hJn.out, hown4, hbx13.out, by rw [hsL.out]; exact hbx03.out, by rw [hsL.out]; exact s2, hb3', hsz3⟩
        · have HN := hF (head_sum hx32 hno)
          clear hno hown1 hbx1' hbx0' s2 s3 hb2 en hk2
          go_wp2
          try rw [Exit.noGoto_ret]
          go_ret2
          have hB' := hB.out
          exact ⟨by rw [← hB']; exact hb2', .inr ⟨HN.out, rfl⟩⟩
      · have hJn : Hid (Jd x (j + 1) 178 (E : Int)) := ⟨hk2.out, .inr ⟨by omega, rfl, hEn, hJ1, hJ2, by omega⟩⟩
        have hb1x : j ≤ 2200 := by
          have := nb_lt (nOf x)
          omega
        replace hbx1' := hF hbx1'
        replace hbx0' := hF hbx0'
        clear hk2 hEn hJ1 hJ2 hJ3 hjn hkk
        go_wp2_with (first | (at_builtin; refine wpList_append_sl rfl _ _ 22 rfl (B + 2) i0 Try.underlying22 hi hz0 hz1 hz2 _ _ rfl hown1 a3 31 (c - 1) _ rfl s3 (by rw [hpl]; omega) hsz1 ?_) | fail)
        intro v3 w3 hown3 hb3
        have hown4 : Own w3 (B + 2) v3 (pcs (j + 1) x) := by rw [pcs_snoc, List.drop_drop]; exact hown3
        have hb3' : Below B w w3 := hb1.trans (hb3.mono (by omega))
        have hbx13 := hF (hbx1'.out.below hb3 (by omega))
        have hbx03 := hF (hbx0'.out.below hb3 (by omega))
        have hsz3 : B + 2 ≤ w3.heap.size := Nat.le_trans hsz1 hb3.size
        clear hown1 hown3 hb3 s3 hb1 hbx1' hbx0'
        go_wp2
        go_roundg (gk - 1)
        case measure => omega
        case rel => exact ⟨j + 1, 178, (E : Int), a2, c - 32, by omega, by have := hL.out; omega, rfl, rfl, hJn.out, hown4, hbx13.out, by rw [hsL.out]; exact hbx03.out, by rw [hsL.out]; exact s2, hb3', hsz3⟩
    · have HN := hF (hlk hf)
      have hfi : (f == k) = false := by simpa using hf
      have hfn : (f != k) = true := by simpa using hf
      clear hlk hk1 hw1 hcell s1w s1 s2 s3 hs3 e1 e2 hown hbx1 hbx0 hsl hbel h hkds hdr hB' hown1 hbx1' hbx0' hJ hkk
      go_wp2
      try rw [Exit.noGoto_ret]
      go_ret2
      have hB' := hB.out
      exact ⟨by rw [← hB']; exact hb1, .inr ⟨HN.out, rfl⟩⟩
end Go.Proofs.Ytaibldodlbaknaa
