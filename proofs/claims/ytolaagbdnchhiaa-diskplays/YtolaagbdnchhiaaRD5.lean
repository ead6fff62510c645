/-
  The document's own disk: Delete, Rename.
-/
import Derived.Test.YtolaagbdnchhiaaRD4
set_option linter.unusedVariables false
set_option linter.unusedSimpArgs false
namespace Go.Proofs.Ytolaagbdnchhiaa
open Go.RowKit Go.Maps

section
variable {w w' : World} {r : Nat} {κ : Nat → Ro} {vF vO vL vN : Value} {φ : Nat → Nat} {β : Nat → Value} {P : PD} {cut : Int} {off : Bool}
theorem Wd.nr (h : Wd w r κ vF vO vL vN φ β P cut off) : ∀ g, vN.ownBlock = some g → g ≠ r := fun g e e2 => by
  have := h.kN g e
  rw [e2, h.kr] at this
  cases this
/-- One operation more. -/
theorem Wd.count (h : Wd w r κ vF vO vL vN φ β P cut off) (n : Int) : Wd (w.setCell ⟨r, 4, none⟩ (.int .i64 n)) r κ vF vO vL vN φ β { P with n := n } cut off ∧ Fr (fun j => j = r) w (w.setCell ⟨r, 4, none⟩ (.int .i64 n)) := by
  have hF : Fr (fun j => j = r) w (w.setCell ⟨r, 4, none⟩ (.int .i64 n)) := Fr.setCell (p := ⟨r, 4, none⟩) (Fr.refl (fun j => j = r) w) (.inl rfl) _
  exact ⟨h.blk hF (h.rk.set.2.2.2.2.1 n), hF⟩
theorem fr_out (h : Wd w r κ vF vO vL vN φ β P cut off) {w1 w2 w3 : World} {κ' : Nat → Ro} (hF : Fr (fun j => j = r) w w1) (ho : ∀ j, j < w1.heap.size → κ' j = κ j) (h1 : Fr (fun j => κ j ≠ .out) w1 w2) (h2 : Fr (fun j => j = r) w2 w3) : Fr (fun j => κ j ≠ .out) w w3 := by
  have kr : κ r ≠ .out := by rw [h.kr]; exact Ro.noConfusion
  exact ((hF.mono fun j _ e => by rw [e]; exact kr).trans h1 (fun j e => .inl e)).trans h2 (fun j e => .inl (by rw [e]; exact kr))

set_option maxHeartbeats 4000000 in
set_option maxRecDepth 100000 in
theorem ref_delete (h : RD w r κ P cut off) (hP : P.inv) (s : ByteArray) (hs : s.size ≤ maxLen) :
    Calls Try.prog 34 #[.pointer (some ⟨r, 0, none⟩), .string s] w fun e w' => e = .returned (.int .i64 (if offed P.n cut off = true then 24 else (P.del s).1)) ∧ Rres w w' r κ (if offed P.n cut off = true then P else (P.del s).2) cut (offed P.n cut off) := by
  obtain ⟨vF, vO, vL, vN, φ, β, h⟩ := h
  have hg := hP.now
  have hl := hg.len
  have hr := ref_ready h.rk h.rN h.nr hg.txt (by omega) s s hs hs
  have HW := hide2 h
  have HP := hide2 hP
  clear h hP hg hl
  go_enter Try.func34, Try.ntmps34
  go_wp2_with fail
  refine hr.mono ?_
  rintro e w1 ⟨rfl, hk, hF, hz⟩
  clear hr
  cases ho : offed P.n cut off with
  | true =>
    rw [ho] at hk
    have er : rcode true (isName s && isName s) (plook (kl s) P.now) P.n = 24 := rfl
    rw [er]
    have HK := hide2 hk
    clear hk
    go_wp2
    all_goals
      go_ret
      exact ⟨rfl, HW.out.idle HK.out hF⟩
  | false =>
    rw [ho] at hk
    have er : rcode false (isName s && isName s) (plook (kl s) P.now) P.n = pcode (isName s) (plook (kl s) P.now) P.n := by rw [Bool.and_self]; rfl
    rw [er]
    by_cases hc : pcode (isName s) (plook (kl s) P.now) P.n = 0
    · rw [hc]
      obtain ⟨hn, ⟨i, hi⟩, hop⟩ := pcode_zero hc
      have hlo := HP.out.lo
      have h1 : Wd w1 r κ vF vO vL vN φ β P cut false := HW.out.blk hF hk
      have hch := ref_change h1 HP.out (.del s) (name_some hn)
      have ev : chV (.del s) = .agg #[.string s, .string .empty, .int .i64 0] := rfl
      rw [ev] at hch
      have ea : P.del s = (0, { P with log := P.log ++ [.del s], n := P.n + 1 }) := by
        unfold PD.del
        rw [if_pos hc]
      have HE := hide2 ea
      have HC := hide2 hch
      clear ea hch h1 hk
      go_wp2_with fail
      refine HC.out.mono ?_
      rintro e w2 ⟨rfl, κ', vL', vN', hW2, hk2, hF2⟩
      obtain ⟨c0, c1, c2, c3, c4, c5, c6⟩ := hW2.rk.cells
      have c4' : w2.cell? ⟨r, 4, none⟩ = some (.int .i64 P.n) := c4
      have f4 := hW2.rk.free 4
      have hc63 : P.n + 1 < 9223372036854775808 := by omega
      have HW2 := hide2 hW2
      clear hW2 HC c4 c0 c1 c2 c3 c5 c6
      go_wp2
      all_goals
        go_ret
        rw [HE.out]
        obtain ⟨hW3, hF3⟩ := HW2.out.count (P.n + 1)
        exact ⟨rfl, κ', ⟨vF, vO, vL', vN', φ, β, hW3⟩, fun j hj => hk2 j (by omega), fr_out HW.out hF (κ' := κ') (fun j hj => hk2 j hj) hF2 hF3⟩
    · have ea : P.del s = (pcode (isName s) (plook (kl s) P.now) P.n, P) := by
        unfold PD.del
        rw [if_neg hc]
      have HE := hide2 ea
      have HK := hide2 hk
      clear ea hk
      generalize hx : pcode (isName s) (plook (kl s) P.now) P.n = x at *
      have hd : decide (x = 0) = false := by simpa using hc
      clear hx
      go_wp2
      all_goals
        go_ret
        rw [HE.out]
        exact ⟨rfl, HW.out.idle HK.out hF⟩
set_option maxHeartbeats 4000000 in
set_option maxRecDepth 100000 in
theorem ref_rename (h : RD w r κ P cut off) (hP : P.inv) (s t : ByteArray) (hs : s.size ≤ maxLen) (ht : t.size ≤ maxLen) :
    Calls Try.prog 33 #[.pointer (some ⟨r, 0, none⟩), .string s, .string t] w fun e w' => e = .returned (.int .i64 (if offed P.n cut off = true then 24 else (P.ren s t).1)) ∧ Rres w w' r κ (if offed P.n cut off = true then P else (P.ren s t).2) cut (offed P.n cut off) := by
  obtain ⟨vF, vO, vL, vN, φ, β, h⟩ := h
  have hg := hP.now
  have hl := hg.len
  have hr := ref_ready h.rk h.rN h.nr hg.txt (by omega) s t hs ht
  have HW := hide2 h
  have HP := hide2 hP
  clear h hP hg hl
  go_enter Try.func33, Try.ntmps33
  go_wp2_with fail
  refine hr.mono ?_
  rintro e w1 ⟨rfl, hk, hF, hz⟩
  clear hr
  cases ho : offed P.n cut off with
  | true =>
    rw [ho] at hk
    have er : rcode true (isName t && isName s) (plook (kl s) P.now) P.n = 24 := rfl
    rw [er]
    have HK := hide2 hk
    clear hk
    go_wp2
    all_goals
      go_ret
      exact ⟨rfl, HW.out.idle HK.out hF⟩
  | false =>
    rw [ho] at hk
    have er : rcode false (isName t && isName s) (plook (kl s) P.now) P.n = pcode (isName t && isName s) (plook (kl s) P.now) P.n := rfl
    rw [er]
    by_cases hc : pcode (isName t && isName s) (plook (kl s) P.now) P.n = 0
    · rw [hc]
      obtain ⟨hn, ⟨i, hi⟩, hop⟩ := pcode_zero hc
      have hns : isName s = true := by cases e : isName s <;> simp_all
      have hnt : isName t = true := by cases e : isName t <;> simp_all
      have hlo := HP.out.lo
      have h1 : Wd w1 r κ vF vO vL vN φ β P cut false := HW.out.blk hF hk
      have hch := ref_change h1 HP.out (.ren s t) ⟨name_some hns, name_some hnt, i, hi⟩
      have ev : chV (.ren s t) = .agg #[.string s, .string t, .int .i64 0] := rfl
      rw [ev] at hch
      have ea : P.ren s t = (0, { P with log := P.log ++ [.ren s t], n := P.n + 1 }) := by
        unfold PD.ren
        rw [if_pos hc]
      have HE := hide2 ea
      have HC := hide2 hch
      clear ea hch h1 hk hn hns hnt
      go_wp2_with fail
      refine HC.out.mono ?_
      rintro e w2 ⟨rfl, κ', vL', vN', hW2, hk2, hF2⟩
      obtain ⟨c0, c1, c2, c3, c4, c5, c6⟩ := hW2.rk.cells
      have c4' : w2.cell? ⟨r, 4, none⟩ = some (.int .i64 P.n) := c4
      have f4 := hW2.rk.free 4
      have hc63 : P.n + 1 < 9223372036854775808 := by omega
      have HW2 := hide2 hW2
      clear hW2 HC c4 c0 c1 c2 c3 c5 c6
      go_wp2
      all_goals
        go_ret
        rw [HE.out]
        obtain ⟨hW3, hF3⟩ := HW2.out.count (P.n + 1)
        exact ⟨rfl, κ', ⟨vF, vO, vL', vN', φ, β, hW3⟩, fun j hj => hk2 j (by omega), fr_out HW.out hF (κ' := κ') (fun j hj => hk2 j hj) hF2 hF3⟩
    · have ea : P.ren s t = (pcode (isName t && isName s) (plook (kl s) P.now) P.n, P) := by
        unfold PD.ren
        rw [if_neg hc]
      have HE := hide2 ea
      have HK := hide2 hk
      clear ea hk
      generalize hx : pcode (isName t && isName s) (plook (kl s) P.now) P.n = x at *
      have hd : decide (x = 0) = false := by simpa using hc
      clear hx
      go_wp2
      all_goals
        go_ret
        rw [HE.out]
        exact ⟨rfl, HW.out.idle HK.out hF⟩
end
end Go.Proofs.Ytolaagbdnchhiaa
