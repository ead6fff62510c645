/-
  The document's own disk: Read, Poke.
-/
import Derived.Test.YtolaagbdnchhiaaRD5
import Derived.Test.YtolaagbdnchhiaaLNames
set_option linter.unusedVariables false
set_option linter.unusedSimpArgs false
namespace Go.Proofs.Ytolaagbdnchhiaa
open Go.RowKit Go.Maps

section
variable {w w' : World} {r : Nat} {κ : Nat → Ro} {vF vO vL vN : Value} {φ : Nat → Nat} {β : Nat → Value} {P : PD} {cut : Int} {off : Bool}
set_option maxHeartbeats 2000000 in
set_option maxRecDepth 100000 in
theorem ref_read (h : RD w r κ P cut off) (hP : P.inv) (s : ByteArray) (hs : s.size ≤ maxLen) :
    Calls Try.prog 30 #[.pointer (some ⟨r, 0, none⟩), .string s] w fun e w' => (∃ ao len cap, e = .returned (.tuple #[.slice ao len cap, .int .i64 (if off = true then 24 else (Land.pread P s).1)]) ∧ Sl w ao len cap (if off = true then [] else (Land.pread P s).2)) ∧ w' = w := by
  obtain ⟨vF, vO, vL, vN, φ, β, h⟩ := h
  have hg := hP.now
  have hl := hg.len
  have hi1 := refIsName_any s w hs
  have hf := find_ref h.rN (by rw [nl_len]; omega) s
  rw [nl_find hg.txt] at hf
  obtain ⟨c0, c1, c2, c3, c4, c5, c6⟩ := h.rk.cells
  cases off with
  | true =>
    clear hf hi1 h
    go_enter Try.func30, Try.ntmps30
    go_wp2
    go_ret2
    exact ⟨⟨none, 0, 0, rfl, Sl.nil w⟩, rfl⟩
  | false =>
    show Calls _ _ _ _ fun e w' => (∃ ao len cap, e = .returned (.tuple #[.slice ao len cap, .int .i64 (Land.pread P s).1]) ∧ Sl w ao len cap (Land.pread P s).2) ∧ w' = w
    unfold Land.pread
    cases hn : isName s with
    | false =>
      rw [hn] at hi1
      rw [if_pos rfl]
      clear hf h
      go_enter Try.func30, Try.ntmps30
      go_wp2_with fail
      refine hi1.mono ?_
      rintro e w' ⟨rfl, rfl⟩
      go_wp2
      go_ret2
      exact ⟨⟨none, 0, 0, rfl, Sl.nil _⟩, rfl⟩
    | true =>
      rw [hn] at hi1
      rw [if_neg (by decide)]
      cases e : plook (kl s) P.now with
      | none =>
        rw [e] at hf
        clear h
        go_enter Try.func30, Try.ntmps30
        go_wp2_with fail
        refine hi1.mono ?_
        rintro e w' ⟨rfl, rfl⟩
        go_wp2_with fail
        refine hf.mono ?_
        rintro e w' ⟨rfl, rfl⟩
        go_wp2
        go_ret2
        exact ⟨⟨none, 0, 0, rfl, Sl.nil _⟩, rfl⟩
      | some i =>
        rw [e] at hf
        obtain ⟨a1, a2, a3, a4⟩ := hP.at e
        have hil := (List.getElem?_eq_some_iff.1 a1).1
        obtain ⟨g, cap, rfl, hcell, hkg⟩ := h.files (i := i) hil
        unfold rpt at hcell
        obtain ⟨b1, b2, b3, b4⟩ := h.fil i _ a1
        obtain ⟨ao, lb, capb, hbv, hsl, _⟩ := b3.sl' a2
        rw [hbv] at b1
        obtain ⟨q0, q1⟩ := b1.cells
        have hin : ¬ ((i : Int) < 0) := by omega
        have HS := hide2 hsl
        clear h a1 a2 a3 a4 b1 b2 b3 b4 hsl
        go_enter Try.func30, Try.ntmps30
        go_wp2_with fail
        refine hi1.mono ?_
        rintro e w' ⟨rfl, rfl⟩
        go_wp2_with fail
        refine hf.mono ?_
        rintro e w' ⟨rfl, rfl⟩
        go_wp2
        go_ret2
        exact ⟨⟨ao, lb, capb, rfl, HS.out⟩, rfl⟩

/-- The bytes of a file are other ones. -/
theorem Wd.bytes (h : Wd w r κ vF vO vL vN φ β P cut off) {i : Nat} (hi : i < P.fil.length) {y : List Int × Nat} (hy : P.fil[i]? = some y) {ys : List Int} (ho : Own w' 0 (β i) ys) (F : Fr (fun j => (β i).ownBlock = some j) w w') : Rres w w' r κ { P with fil := P.fil.set i (ys, y.2) } cut off := by
  obtain ⟨b1, b2, b3, b4⟩ := h.fil i y hy
  have sm : Sm κ (fun x => x = .byt i) w w' := ⟨F.size, fun j hj hn => F.block j hj fun e => hn (b4 j e)⟩
  have hlen : (P.fil.set i (ys, y.2)).length = P.fil.length := by simp
  refine ⟨κ, ⟨vF, vO, vL, vN, φ, β, h.oK sm (by simp), h.kr, ?_, h.kF, h.oO sm (by simp), h.kO, h.oL sm (by simp), h.kL, h.oN sm (by simp), h.kN, fun k x hx => ?_, fun g hg => Nat.lt_of_lt_of_le (h.frs g hg) sm.1⟩, fun _ _ => rfl, F.mono fun j _ e => by rw [b4 j e]; exact Ro.noConfusion⟩
  · show World.ownsRow _ 0 _ 1 _ (P.fil.set i (ys, y.2)).length ((List.range (P.fil.set i (ys, y.2)).length).map _)
    rw [hlen]
    exact h.oF sm (by simp)
  · have hx' : (P.fil.set i (ys, y.2))[k]? = some x := hx
    by_cases e : k = i
    · subst e
      rw [List.getElem?_set, if_pos rfl, if_pos hi] at hx'
      cases hx'
      exact ⟨(sm.2 _ b1.lt (by rw [b2]; simp)).trans b1, b2, ho, b4⟩
    · rw [List.getElem?_set, if_neg (Ne.symm e)] at hx'
      exact h.oFil sm k x hx' (by simp) (by simp [e])

set_option maxHeartbeats 2000000 in
set_option maxRecDepth 100000 in
theorem ref_poke (h : RD w r κ P cut off) (hP : P.inv) (s : ByteArray) (hs : s.size ≤ maxLen) (k b : Int) :
    Calls Try.prog 38 #[.pointer (some ⟨r, 0, none⟩), .string s, .int .i64 k, .int .u8 b] w fun e w' => e = .returned (.int .i64 (Land.ppoke P s k b).1) ∧ Rres w w' r κ (Land.ppoke P s k b).2 cut off := by
  obtain ⟨vF, vO, vL, vN, φ, β, h⟩ := h
  have hsame : Rres w w r κ P cut off := ⟨κ, ⟨vF, vO, vL, vN, φ, β, h⟩, fun _ _ => rfl, Fr.refl _ _⟩
  have hg := hP.now
  have hl := hg.len
  have hi1 := refIsName_any s w hs
  have hf := find_ref h.rN (by rw [nl_len]; omega) s
  rw [nl_find hg.txt] at hf
  obtain ⟨c0, c1, c2, c3, c4, c5, c6⟩ := h.rk.cells
  unfold Land.ppoke
  cases hn : isName s with
  | false =>
    rw [hn] at hi1
    rw [if_pos rfl]
    clear hf h
    go_enter Try.func38, Try.ntmps38
    go_wp2_with fail
    refine hi1.mono ?_
    rintro e w' ⟨rfl, rfl⟩
    go_wp2
    go_ret
    exact ⟨rfl, hsame⟩
  | true =>
    rw [hn] at hi1
    rw [if_neg (by decide)]
    cases e : plook (kl s) P.now with
    | none =>
      rw [e] at hf
      clear h
      go_enter Try.func38, Try.ntmps38
      go_wp2_with fail
      refine hi1.mono ?_
      rintro e w' ⟨rfl, rfl⟩
      go_wp2_with fail
      refine hf.mono ?_
      rintro e w' ⟨rfl, rfl⟩
      go_wp2
      go_ret
      exact ⟨rfl, hsame⟩
    | some i =>
      rw [e] at hf
      obtain ⟨a1, a2, a3, a4⟩ := hP.at e
      have hil := (List.getElem?_eq_some_iff.1 a1).1
      obtain ⟨g, cap, rfl, hcell, hkg⟩ := h.files (i := i) hil
      unfold rpt at hcell
      obtain ⟨b1, b2, b3, b4⟩ := h.fil i _ a1
      obtain ⟨ao, lb, capb, hbv, hsl, _⟩ := b3.sl' a2
      have hll : lb = (P.at i).1.length := hsl.1.symm
      have b1' := b1
      rw [hbv] at b1'
      obtain ⟨q0, q1⟩ := b1'.cells
      have hin : ¬ ((i : Int) < 0) := by omega
      show Calls _ _ _ _ fun e w' => e = .returned (.int .i64 (if k < 0 ∨ ((P.at i).1.length : Int) ≤ k then (2, P) else _).1) ∧ Rres w w' r κ (if k < 0 ∨ ((P.at i).1.length : Int) ≤ k then (2, P) else _).2 cut off
      by_cases hk : k < 0 ∨ ((P.at i).1.length : Int) ≤ k
      · rw [if_pos hk]
        by_cases h0 : k < 0
        · have d0 : decide (k < 0) = true := by simpa using h0
          clear h a1 a2 a3 a4 b1 b2 b3 b4 hsl
          go_enter Try.func38, Try.ntmps38
          go_wp2_with fail
          refine hi1.mono ?_
          rintro e w' ⟨rfl, rfl⟩
          go_wp2_with fail
          refine hf.mono ?_
          rintro e w' ⟨rfl, rfl⟩
          go_wp2
          go_ret
          exact ⟨rfl, hsame⟩
        · have d0 : decide (k < 0) = false := by simpa using h0
          have h1 : (lb : Int) ≤ k := by omega
          have d1 : decide ((lb : Int) ≤ k) = true := by simpa using h1
          clear h a1 a2 a3 a4 b1 b2 b3 b4 hsl
          go_enter Try.func38, Try.ntmps38
          go_wp2_with fail
          refine hi1.mono ?_
          rintro e w' ⟨rfl, rfl⟩
          go_wp2_with fail
          refine hf.mono ?_
          rintro e w' ⟨rfl, rfl⟩
          go_wp2
          go_ret
          exact ⟨rfl, hsame⟩
      · rw [if_neg hk]
        obtain ⟨k', rfl⟩ : ∃ k' : Nat, k = (k' : Int) := ⟨k.toNat, by omega⟩
        have b3' := b3
        rw [hbv] at b3'
        obtain ⟨gb, rfl⟩ : ∃ gb, ao = some ⟨gb, 0, none⟩ := by
          rcases Go.Joins.ownsRow_forms b3' with ⟨e, h0⟩ | ⟨g, c2, e⟩
          · omega
          · cases e; exact ⟨g, rfl⟩
        rw [hll] at b3'
        have fz : w.frozen? ⟨gb, k', none⟩ = false := World.ownsRow.frozenAt b3' k'
        obtain ⟨cv, hcv⟩ : ∃ cv, w.cell? ⟨gb, k', none⟩ = some cv := by
          have hk2 : k' < (bc (P.at i).1).length := by rw [bc_length]; omega
          exact ⟨_, (World.ownsRow.cellAt b3' k' (by omega)).trans (List.getElem?_eq_getElem hk2)⟩
        have hst := World.ownsRow.stored b3' k' (.int .u8 b)
        have hF : Fr (fun j => (β i).ownBlock = some j) w (w.setCell ⟨gb, k', none⟩ (.int .u8 b)) := Fr.grown hst.2 (fun j e => by cases e; rw [hbv]; rfl)
        have hres : Rres w (w.setCell ⟨gb, k', none⟩ (.int .u8 b)) r κ { P with fil := P.fil.set i ((P.at i).1.set k' b, (P.at i).2) } cut off := h.bytes hil a1 (by
          rw [hbv, hll]
          unfold Own
          rw [Land.bc_set, List.length_set]
          exact hst.1) hF
        have h0 : ¬ ((k' : Int) < 0) := by omega
        have h1 : ¬ ((lb : Int) ≤ (k' : Int)) := by omega
        have hlt' : k' < lb := by omega
        have d0 : decide ((k' : Int) < 0) = false := by simp
        have d1 : decide ((lb : Int) ≤ (k' : Int)) = false := by simpa using hlt'
        have HR := hide2 hres
        clear h a1 a2 a3 a4 b1 b2 b3 b4 hsl hst hF hres b3' hsame
        go_enter Try.func38, Try.ntmps38
        go_wp2_with fail
        refine hi1.mono ?_
        rintro e w' ⟨rfl, rfl⟩
        go_wp2_with fail
        refine hf.mono ?_
        rintro e w' ⟨rfl, rfl⟩
        go_wp2
        go_ret
        exact ⟨rfl, HR.out⟩
end
end Go.Proofs.Ytolaagbdnchhiaa
