/-
  The walk of the law NumSums.
-/
import Derived.Test.YtckfocfcfflcbaaShown
import Derived.Test.YtckfocfcfflcbaaTurns
import Derived.Lib.SlBytesConst
set_option linter.unusedVariables false
set_option linter.unusedSimpArgs false
namespace Go.Proofs.Ytckfocfcfflcbaa
open Go.RowKit

theorem crc_nine : crc [49, 50, 51, 52, 53, 54, 55, 56, 57] = 3421780262 := by decide +kernel

theorem byt_flat (ps : List (List Int)) (h : ∀ i, i < ps.length → Byt (ps.getD i [])) : Byt ps.flatten := by
  intro y hy
  obtain ⟨l, hl, hy2⟩ := List.mem_flatten.1 hy
  obtain ⟨i, hi, rfl⟩ := List.mem_iff_getElem.1 hl
  have := h i hi
  simp only [List.getD, List.getElem?_eq_getElem hi, Option.getD_some] at this
  exact this y hy2
theorem Pl.byt {w : World} {ao : Option Addr} {len cap : Nat} {ps : List (List Int)} (h : Pl w ao len cap ps) : Byt ps.flatten := by
  obtain ⟨h1, h2, h3, h4⟩ := h
  refine byt_flat ps fun i hi => ?_
  obtain ⟨b, off, _, _, hc⟩ := h4 (by omega)
  obtain ⟨a, l, c, _, hs⟩ := hc i (by omega)
  exact hs.2.2.2.1
theorem flat_le (ps : List (List Int)) (k : Nat) : (ps.take k).flatten.length ≤ ps.flatten.length := by
  conv => rhs; rw [← List.take_append_drop k ps]
  rw [List.flatten_append, List.length_append]
  omega

set_option maxHeartbeats 1000000 in
theorem sums_walk (ao : Option Addr) (len cap : Nat) (ps : List (List Int)) (w : World) (h : Pl w ao len cap ps) (hl : ps.flatten.length ≤ 1048576) :
    Calls Try.prog 7 #[.slice ao len cap] w fun e w' => e = .returned (.bool true) ∧ Below w.heap.size w w' := by
  obtain ⟨i0, hi, hz0, hz1, hz2⟩ := info_parts Try.info5
  have hpl := h.1
  have hlen : (len : Int) ≤ 9223372036854775807 := by have := h.2.1; have := h.2.2.1; unfold maxLen at this; omega
  have kc := fun (w : World) (C : Array Value) (n c : Nat) => Lib.run_convert_bytes_const (P := Try.prog) w 22 5 C n c Try.underlying22 Try.underlying5
  obtain ⟨u, hu⟩ : ∃ u, u = w.alloc (.cells #[.int .u8 49, .int .u8 50, .int .u8 51, .int .u8 52, .int .u8 53, .int .u8 54, .int .u8 55, .int .u8 56, .int .u8 57] 5 (9, 10)) := ⟨_, rfl⟩
  have hsl9 : Sl u (some ⟨w.heap.size, 0, none⟩) 9 9 [49, 50, 51, 52, 53, 54, 55, 56, 57] := by
    refine ⟨rfl, Nat.le_refl _, by unfold maxLen; omega, ?_, (fun e => by cases e), fun _ => ⟨w.heap.size, 0, rfl, by rw [hu]; simp, fun i hi => ?_⟩⟩
    · intro y hy
      simp only [List.mem_cons, List.not_mem_nil, or_false] at hy
      omega
    · rw [hu, Nat.zero_add, World.cell?_alloc_mark]
      match i, hi with
      | 0, _ => rfl
      | 1, _ => rfl
      | 2, _ => rfl
      | 3, _ => rfl
      | 4, _ => rfl
      | 5, _ => rfl
      | 6, _ => rfl
      | 7, _ => rfl
      | 8, _ => rfl
  have hbu : Below w.heap.size w u := by rw [hu]; exact (Below.refl _ _).alloc (Nat.le_refl _) _
  have hp9 := Pl.one hsl9 22
  have hsu : u.heap.size = w.heap.size + 1 := by rw [hu]; simp
  rw [hsu] at hp9
  replace hu := hide3 hu
  go_enter Try.func7, Try.ntmps7
  go_wp2_with fail
  rw [← hu.out]
  refine (crc_any (some ⟨w.heap.size + 1, 0, none⟩) 1 1 [[49, 50, 51, 52, 53, 54, 55, 56, 57]] _ hp9).mono ?_
  rintro e w1 ⟨rfl, hw1⟩
  have hb1 : Below w.heap.size w w1 := by rw [hw1]; exact hbu.alloc hbu.size _
  have h1 := h.below hb1
  have hnine : (crc [[49, 50, 51, 52, 53, 54, 55, 56, 57]].flatten : Nat) = 3421780262 := crc_nine
  rw [hnine]
  clear hw1 hp9 hsl9 hbu hsu hu kc h u hnine
  obtain ⟨h11, h12, h13, h14⟩ := h1
  have h1 : Pl w1 ao len cap ps := ⟨h11, h12, h13, h14⟩
  have H14 := hide3 h14
  clear h14 h11
  go_wp2
  go_loopw [4, 5] (fun v i wr => ∃ k : Nat, k ≤ len ∧ i = .int .i64 (k : Int) ∧ Own wr w1.heap.size v (ps.take k).flatten ∧ Below w1.heap.size w1 wr) (fun _ i _ => len - (intOf i).toNat)
  case atStart => exact ⟨0, by omega, rfl, World.ownsRow_nil _ _ _ _, Below.refl _ _⟩
  case round =>
    obtain ⟨k, hk, rfl, hown, hb⟩ := hrel
    have hsb := hb.size
    by_cases hlt : k < len
    · have hlti : (k : Int) < (len : Int) := by omega
      obtain ⟨b, off, rfl, hbl, hcell⟩ := H14.out (by omega)
      obtain ⟨a2, l2, c2, hc2, hs2⟩ := hcell k hlt
      have hc3 : wr.cell? ⟨b, off + k, none⟩ = some (.slice a2 l2 c2) := (hb.cell (p := ⟨b, off + k, none⟩) hbl).trans hc2
      have hs3 := hs2.below hb
      have hfl := flat_take ps k (by omega)
      have hle1 := flat_le ps (k + 1)
      have hl2 := hs3.1
      have hle2 : (ps.take k).flatten.length + l2 ≤ 1048576 := by
        have := congrArg List.length hfl
        rw [List.length_append] at this
        omega
      have HF := hide3 hfl
      generalize ps.getD k [] = q at *
      clear hcell hc2 hs2 hfl h1
      go_wp2_with (first | (at_builtin; refine wpList_append_sl rfl _ _ 22 rfl w1.heap.size i0 Try.underlying22 hi hz0 hz1 hz2 _ _ rfl hown a2 l2 c2 _ rfl hs3 (by omega) hsb ?_) | fail)
      intro v' w2 hown' hb'
      have ho2 : Own w2 w1.heap.size v' (ps.take (k + 1)).flatten := by rw [HF.out]; exact hown'
      have hb2 := hb.trans hb'
      clear hown' hb' hown hb hs3 hc3 HF
      go_wp2
      go_roundw
      case rel => exact ⟨k + 1, by omega, by go_num, ho2, hb2⟩
      case measure => simp [intOf]; omega
    · have hlti : ¬ (k : Int) < (len : Int) := by omega
      have hown2 := hown
      rw [List.take_of_length_le (by omega)] at hown2
      obtain ⟨aa, la, ca, rfl, hslA, _⟩ := hown2.sl' h1.byt
      have hpA := Pl.one hslA 22
      have h2 := h1.below hb
      have hb0 : Below w.heap.size w wr := hb1.trans (hb.mono hb1.size)
      clear hown hown2 h1 hb H14
      go_wp2_with fail
      refine (crc_any (some ⟨wr.heap.size, 0, none⟩) 1 1 [ps.flatten] _ hpA).mono ?_
      rintro e w3 ⟨rfl, hw3⟩
      have hb3 : Below wr.heap.size wr w3 := by rw [hw3]; exact (Below.refl _ _).alloc (Nat.le_refl _) _
      have h3 := h2.below hb3
      have hslA3 := hslA.below hb3
      have hb03 : Below w.heap.size w w3 := hb0.trans (hb3.mono hb0.size)
      have e1 : [ps.flatten].flatten = ps.flatten := by simp
      rw [e1]
      clear hw3 hpA hslA h2 hb3 hb0 e1
      go_wp2_with fail
      refine (crc_any ao len cap ps w3 h3).mono ?_
      rintro e w4 ⟨rfl, rfl⟩
      go_wp2_with fail
      refine (refCrc_any aa la ca _ w4 hslA3).mono ?_
      rintro e w5 ⟨rfl, rfl⟩
      clear h3 hslA3
      go_wp2
      go_ret
      exact ⟨by first | rfl | (simp; done), hb03⟩
end Go.Proofs.Ytckfocfcfflcbaa
