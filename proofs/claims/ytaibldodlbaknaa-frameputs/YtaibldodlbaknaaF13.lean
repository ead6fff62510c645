/-
  The laws' own 'shown' returns true.
-/
import Derived.Test.YtaibldodlbaknaaF12
set_option linter.unusedVariables false
set_option linter.unusedSimpArgs false
namespace Go.Proofs.Ytaibldodlbaknaa
open Go.RowKit

theorem byt_ab : Byt [97, 98] := Byt.cons (by decide) (Byt.cons (by decide) Byt.nil)
theorem pt_ab : ptE [] [97, 98] = 0 := by decide
theorem take_ab : takA (fra 5 [97, 98]) 0 = some (5, [97, 98]) := by decide +kernel
theorem len_ab : (fra 5 [97, 98]).length = 32 := by rw [fra_len]; rfl
theorem at_ab : (fra 5 [97, 98]).getD 0 0 = 161 ∧ (fra 5 [97, 98]).getD 1 0 = 5 ∧ (fra 5 [97, 98]).getD 17 0 = 97 := by decide +kernel

theorem goes_ab {bs : List (List Int)} {F a f : Nat} (h : goes (fra 5 [97, 98]) bs 0 F = some (a, f)) (hF : F ≠ 5) : bs = [] ∧ a = 0 ∧ f = F := by
  cases bs with
  | nil =>
    simp only [goes, Option.some.injEq, Prod.mk.injEq] at h
    exact ⟨rfl, h.1.symm, h.2.symm⟩
  | cons b bs =>
    simp only [goes] at h
    split at h
    · rename_i hc
      rw [show ((0 : Nat) : Int) = 0 from rfl, take_ab] at hc
      simp only [Option.some.injEq, Prod.mk.injEq] at hc
      exact absurd hc.1.symm hF
    · cases h
theorem late_ab4 : Late (fra 5 [97, 98]) 0 4 := ⟨0, 5, [97, 98], take_ab, by decide⟩
theorem late_ab6 : ¬ Late (fra 5 [97, 98]) 0 6 := by
  rintro ⟨i, seq, body, h, hge⟩
  have h1 := (takA_some (fra_byt 5 byt_ab) h).1
  rw [len_ab] at h1
  obtain rfl : i = 0 := by omega
  have h2 : takA (fra 5 [97, 98]) 0 = some (seq, body) := h
  rw [take_ab] at h2
  simp only [Option.some.injEq, Prod.mk.injEq] at h2
  omega

set_option maxHeartbeats 2000000 in
theorem shown_any (w : World) : Calls Try.prog 9 #[] w fun e w' => e = .returned (.bool true) ∧ Below w.heap.size w w' := by
  obtain ⟨u, hu⟩ : ∃ u, u = w.alloc (.cells #[.int .u8 97, .int .u8 98] 5 (2, 3)) := ⟨_, rfl⟩
  have hb0 : Below w.heap.size w u := by rw [hu]; exact (Below.refl _ _).alloc (Nat.le_refl _) _
  have hs0 : Sl u (some ⟨w.heap.size, 0, none⟩) 2 2 [97, 98] :=
    ⟨rfl, Nat.le_refl _, by unfold maxLen; omega, byt_ab, (fun e => by cases e), fun _ => ⟨w.heap.size, 0, rfl, by rw [hu]; simp, fun i hi => by
      rw [hu, Nat.zero_add, World.cell?_alloc_mark]
      match i, hi with
      | 0, _ => rfl
      | 1, _ => rfl⟩⟩
  have kc := fun (w : World) (C : Array Value) (n c : Nat) => Lib.run_convert_bytes_const (P := Try.prog) w 22 5 C n c Try.underlying22 Try.underlying5
  replace hu := hF hu
  go_enter Try.func9, Try.ntmps9
  go_wp2_with fail
  rw [← hu.out]
  refine (put_any none 0 0 [] 5 _ 2 2 [97, 98] u (Sl.nil u) hs0 (by decide) (by decide) (by decide)).mono ?_
  rintro e w1 ⟨⟨v1, rfl, hown⟩, hb1⟩
  have hpv : ptV (5 : Int).toNat [] [97, 98] = fra 5 [97, 98] := by
    unfold ptV
    rw [pt_ab, if_pos rfl]
    rfl
  rw [hpv] at hown
  rw [pt_ab]
  obtain ⟨a1, l1, c1, rfl, hsl, _⟩ := hown.sl' (fra_byt 5 byt_ab)
  have hl1 : l1 = 32 := by rw [← hsl.1, len_ab]
  subst hl1
  have hb01 : Below w.heap.size w w1 := hb0.trans (hb1.mono hb0.size)
  clear hown hpv hb0 hb1 hs0 hu kc
  go_wp2_with fail
  refine (take_any a1 32 c1 _ 0 w1 hsl (by decide)).mono ?_
  rintro e w2 ⟨hres, hb2⟩
  unfold TkR at hres
  rw [take_ab] at hres
  rcases hres with ⟨seq, body, v2, g2, ht, rfl, hbd⟩ | ⟨ht, _⟩
  · simp only [Option.some.injEq, Prod.mk.injEq] at ht
    obtain ⟨rfl, rfl⟩ := ht
    have hb02 : Below w.heap.size w w2 := hb01.trans (hb2.mono hb01.size)
    have hsl2 := hsl.below hb2
    obtain ⟨_, _, a3, c3, rfl, hsl3, _⟩ := hbd
    have hnb : nb 2 = 1 := by decide
    clear hsl hb2 hb01
    go_wp2_with fail
    refine (all_any a1 32 c1 _ 4 w2 hsl2 (by decide) (by decide) (by decide)).mono ?_
    rintro e w3 ⟨⟨bs, A, F, h1, h2, h3⟩, hb3⟩
    obtain ⟨rfl, rfl, rfl⟩ := goes_ab h1 (by decide)
    have hb03 : Below w.heap.size w w3 := hb02.trans (hb3.mono hb02.size)
    have hsl4 := hsl2.below hb3
    have hsl5 := hsl3.below hb3
    obtain ⟨_, rfl⟩ := h3.resolve_right fun q => q.1 late_ab4
    clear h3 h1 h2 hb3 hb02 hsl2 hsl3
    go_wp2_with fail
    refine (all_any a1 32 c1 _ 6 w3 hsl4 (by decide) (by decide) (by decide)).mono ?_
    rintro e w4 ⟨⟨bs, A, F, h1, h2, h3⟩, hb4⟩
    obtain ⟨rfl, rfl, rfl⟩ := goes_ab h1 (by decide)
    have hb04 : Below w.heap.size w w4 := hb03.trans (hb4.mono hb03.size)
    have hsl6 := hsl4.below hb4
    have hsl7 := hsl5.below hb4
    obtain ⟨_, v4, rfl, hBs⟩ := h3.resolve_left fun q => late_ab6 q.1
    clear h3
    obtain ⟨a5, c5, rfl⟩ := hBs.len
    have hstr : (convert 22 9 (.slice a3 2 c3)).run Try.prog w4 = .ok (.string ⟨#[97, 98]⟩) w4 := by
      have e : strOfNums [97, 98] = ⟨#[97, 98]⟩ := by decide +kernel
      rw [← e]
      exact hsl7.str (P := Try.prog) 22 Try.underlying22 Try.underlying5 Try.underlying9
    obtain ⟨b, off, rfl, _, hcell⟩ := hsl6.2.2.2.2.2 (by decide)
    have q0 := hcell 0 (by decide)
    have q1 := hcell 1 (by decide)
    have q17 := hcell 17 (by decide)
    rw [at_ab.1] at q0
    rw [at_ab.2.1] at q1
    rw [at_ab.2.2] at q17
    rw [Nat.add_zero] at q0
    clear h1 h2 hb4 hb03 hsl4 hsl5 hsl6 hsl7 hcell hBs
    go_wp2
    trace_state
    go_ret
    exact ⟨ret_bool (by decide +kernel), hb04⟩
  · cases ht
end Go.Proofs.Ytaibldodlbaknaa
