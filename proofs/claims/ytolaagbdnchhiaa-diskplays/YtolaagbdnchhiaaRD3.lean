/-
  The document's own disk: Sync, SyncDir.
-/
import Derived.Test.YtolaagbdnchhiaaRD2
set_option linter.unusedVariables false
set_option linter.unusedSimpArgs false
namespace Go.Proofs.Ytolaagbdnchhiaa
open Go.RowKit Go.Maps

/-- What is left behind a call. -/
def Rres (w w' : World) (r : Nat) (κ : Nat → Ro) (P : PD) (cut : Int) (off : Bool) : Prop :=
  ∃ κ', RD w' r κ' P cut off ∧ (∀ j, j < w.heap.size → κ' j = κ j) ∧ Fr (fun j => κ j ≠ .out) w w'

section
variable {w w' : World} {r : Nat} {κ : Nat → Ro} {vF vO vL vN : Value} {φ : Nat → Nat} {β : Nat → Value} {P : PD} {cut : Int} {off : Bool}
theorem Wd.files (h : Wd w r κ vF vO vL vN φ β P cut off) {i : Nat} (hi : i < P.fil.length) : ∃ g cap, vF = .slice (some ⟨g, 0, none⟩) P.fil.length cap ∧ w.cell? ⟨g, i, none⟩ = some (rpt (φ i)) ∧ κ g = .fs := by
  obtain ⟨g, cap, e⟩ := Go.Joins.ownsRow_form h.rF (by omega)
  have hr := h.rF
  rw [e] at hr
  refine ⟨g, cap, e, ?_, h.kF g (by rw [e]; rfl)⟩
  rw [World.ownsRow.cellAt hr i (by omega), List.getElem?_map, List.getElem?_range hi]
  rfl
/-- Nothing was done. -/
theorem Wd.idle (h : Wd w r κ vF vO vL vN φ β P cut off) {off' : Bool} (hk : Rk w' r vF vO vL vN P.n cut off') (hF : Fr (fun j => j = r) w w') : Rres w w' r κ P cut off' :=
  ⟨κ, ⟨vF, vO, vL, vN, φ, β, h.blk hF hk⟩, fun _ _ => rfl, hF.mono fun j _ e => by rw [e, h.kr]; exact Ro.noConfusion⟩

set_option maxHeartbeats 4000000 in
set_option maxRecDepth 100000 in
theorem ref_sync (h : RD w r κ P cut off) (hP : P.inv) (s : ByteArray) (hs : s.size ≤ maxLen) :
    Calls Try.prog 31 #[.pointer (some ⟨r, 0, none⟩), .string s] w fun e w' => e = .returned (.int .i64 (if offed P.n cut off = true then 24 else (P.sync s).1)) ∧ Rres w w' r κ (if offed P.n cut off = true then P else (P.sync s).2) cut (offed P.n cut off) := by
  obtain ⟨vF, vO, vL, vN, φ, β, h⟩ := h
  have hg := hP.now
  have hl := hg.len
  have hne : ∀ g, vN.ownBlock = some g → g ≠ r := fun g e e2 => by
    have := h.kN g e
    rw [e2, h.kr] at this
    cases this
  have hr := ref_ready h.rk h.rN hne hg.txt (by omega) s s hs hs
  have HW := hide2 h
  have HP := hide2 hP
  have HG := hide2 hg
  have HL := hide2 hl
  clear h hP hg hl
  go_enter Try.func31, Try.ntmps31
  go_wp2_with fail
  refine hr.mono ?_
  rintro e w1 ⟨rfl, hk, hF, hz⟩
  clear hr
  cases ho : offed P.n cut off with
  | true =>
    rw [ho] at hk
    have er : rcode true (isName s && isName s) (plook (kl s) P.now) P.n = 24 := rfl
    rw [er]
    have HK := hide2 hk
    clear hk
    go_wp2
    all_goals
      go_ret
      exact ⟨rfl, HW.out.idle HK.out hF⟩
  | false =>
    rw [ho] at hk
    have er : rcode false (isName s && isName s) (plook (kl s) P.now) P.n = pcode (isName s) (plook (kl s) P.now) P.n := by rw [Bool.and_self]; rfl
    rw [er]
    by_cases hc : pcode (isName s) (plook (kl s) P.now) P.n = 0
    · rw [hc]
      obtain ⟨hn, ⟨i, hi⟩, hop⟩ := pcode_zero hc
      obtain ⟨a1, a2, a3, a4⟩ := HP.out.at hi
      have hil := (List.getElem?_eq_some_iff.1 a1).1
      have hlo := HP.out.lo
      have s1 := Sm.of_blk HW.out hF
      have h1 := HW.out.blk hF hk
      have hN1 := h1.rN
      have hf : ∀ q, Calls Try.prog 58 #[vN, .string s] (w1.drewN q) fun e w' => e = .returned (.int .i64 (i : Int)) ∧ w' = w1.drewN q := fun q => by
        have := find_ref (w := w1.drewN q) (row_any hN1 fun j e => rfl) (by rw [nl_len]; exact Nat.le_trans HL.out (by decide)) s
        rw [nl_find (D := P.now) HG.out.txt, hi] at this
        exact this
      obtain ⟨g, cap, rfl, hcell, hkg⟩ := h1.files (i := i) hil
      unfold rpt at hcell
      obtain ⟨b1, b2, b3, b4⟩ := h1.fil i _ a1
      obtain ⟨ao, lb, capb, hbv, hsl, _⟩ := b3.sl' a2
      have hlb : lb = (P.at i).1.length := hsl.1.symm
      rw [hbv] at b1
      obtain ⟨q0, q1⟩ := b1.cells
      have fq := b1.free 1
      obtain ⟨c0, c1, c2, c3, c4, c5, c6⟩ := hk.cells
      have fr4 := hk.free 4
      have hnr : φ i ≠ r := fun e => by
        have := b2
        rw [e, HW.out.kr] at this
        cases this
      have hc63 : P.n + 1 < 9223372036854775808 := by omega
      have HK := hide2 hk
      have H1 := hide2 h1
      have HB1 := hide2 b1
      have HB2 := hide2 b2
      have HA1 := hide2 a1
      clear hN1 hk h1 b1 b2 b3 b4 a1 a2 a3 a4 hsl s1
      go_wp2
      go_quiet ((go_at_call 58; exact Calls.quiet_of_same (hf _)))
      clear hf
      have ea : P.sync s = (0, { P with fil := P.fil.set i ((P.at i).1, (P.at i).1.length), n := P.n + 1 }) := by
        unfold PD.sync
        rw [if_pos hc, hi]
      have HE := hide2 ea
      clear ea
      go_wp2
      all_goals
        go_ret
        rw [HE.out]
        refine ⟨rfl, ?_⟩
        have hF2 : Fr (fun j => j = φ i ∨ j = r) w1 (((w1.drewN nq).setCell ⟨φ i, 1, none⟩ (.int .i64 ((P.at i).1.length : Int))).setCell ⟨r, 4, none⟩ (.int .i64 (P.n + 1))) := Fr.setCell (p := ⟨r, 4, none⟩) (Fr.setCell (p := ⟨φ i, 1, none⟩) ((Fr.refl _ w1).drewN _) (.inl (.inl rfl)) _) (.inl (.inr rfl)) _
        have sm : Sm κ (fun x => x = .dsk ∨ x = .fl i) w1 (((w1.drewN nq).setCell ⟨φ i, 1, none⟩ (.int .i64 ((P.at i).1.length : Int))).setCell ⟨r, 4, none⟩ (.int .i64 (P.n + 1))) := ⟨hF2.size, fun j hj hn => hF2.block j hj (by
          rintro (e | e)
          · exact hn (.inr (by rw [e]; exact HB2.out))
          · exact hn (.inl (by rw [e]; exact HW.out.kr)))⟩
        have hk2 : Rk (((w1.drewN nq).setCell ⟨φ i, 1, none⟩ (.int .i64 ((P.at i).1.length : Int))).setCell ⟨r, 4, none⟩ (.int .i64 (P.n + 1))) r (.slice (some ⟨g, 0, none⟩) P.fil.length cap) vO vL vN (P.n + 1) cut false :=
          Rk.set (HK.out.same (w' := (w1.drewN nq).setCell ⟨φ i, 1, none⟩ (.int .i64 ((P.at i).1.length : Int))) (Below.heap_setCell _ _ _ _ (Ne.symm hnr))) |>.2.2.2.2.1 (P.n + 1)
        have hlen : (P.fil.set i ((P.at i).1, (P.at i).1.length)).length = P.fil.length := by simp
        refine ⟨κ, ⟨_, vO, vL, vN, φ, β, hk2, HW.out.kr, ?_, H1.out.kF, H1.out.oO sm (by simp), H1.out.kO, H1.out.oL sm (by simp), H1.out.kL, H1.out.oN sm (by simp), H1.out.kN, fun k x hx => ?_, fun g hg => Nat.lt_of_lt_of_le (H1.out.frs g hg) sm.1⟩, fun _ _ => rfl, ?_⟩
        · have := H1.out.oF sm (by simp)
          show World.ownsRow _ 0 _ 1 _ (P.fil.set i ((P.at i).1, (P.at i).1.length)).length ((List.range (P.fil.set i ((P.at i).1, (P.at i).1.length)).length).map _)
          rw [hlen]
          exact this
        · have hx' : (P.fil.set i ((P.at i).1, (P.at i).1.length))[k]? = some x := hx
          by_cases e : k = i
          · subst e
            rw [List.getElem?_set, if_pos rfl, if_pos hil] at hx'
            cases hx'
            obtain ⟨b1, b2, b3, b4⟩ := H1.out.fil k _ HA1.out
            refine ⟨?_, b2, row_same b3 fun j ej => sm.2 j (World.ownsRow.lt b3 j ej).2 (by rw [b4 j ej]; simp), b4⟩
            have e1 : ((w1.drewN nq).setCell ⟨φ k, 1, none⟩ (.int .i64 ((P.at k).1.length : Int))).heap[φ k]? = some (.cells #[β k, .int .i64 ((P.at k).1.length : Int)] 94 (0, 0)) := by
              rw [Go.Joins.block_setCell (w := w1.drewN nq) b1]
              rfl
            exact (Below.heap_setCell _ _ _ _ hnr).trans e1
          · rw [List.getElem?_set, if_neg (Ne.symm e)] at hx'
            exact H1.out.oFil sm k x hx' (by simp [e]) (by simp)
        · refine hF.mono (fun j _ e => ?_) |>.trans hF2 (fun j e => .inl ?_)
          · rw [e, HW.out.kr]; exact Ro.noConfusion
          · rcases e with e | e
            · rw [e, HB2.out]; exact Ro.noConfusion
            · rw [e, HW.out.kr]; exact Ro.noConfusion
    · have ea : P.sync s = (pcode (isName s) (plook (kl s) P.now) P.n, P) := by
        unfold PD.sync
        rw [if_neg hc]
      have HE := hide2 ea
      have HK := hide2 hk
      clear ea hk
      generalize hx : pcode (isName s) (plook (kl s) P.now) P.n = x at *
      have hd : decide (x = 0) = false := by simpa using hc
      clear hx
      go_wp2
      all_goals
        go_ret
        rw [HE.out]
        exact ⟨rfl, HW.out.idle HK.out hF⟩

set_option maxHeartbeats 2000000 in
theorem ref_syncDir (h : RD w r κ P cut off) (hP : P.inv) :
    Calls Try.prog 35 #[.pointer (some ⟨r, 0, none⟩)] w fun e w' => e = .returned (.int .i64 (if offed P.n cut off = true then 24 else P.syncDir.1)) ∧ Rres w w' r κ (if offed P.n cut off = true then P else P.syncDir.2) cut (offed P.n cut off) := by
  obtain ⟨vF, vO, vL, vN, φ, β, h⟩ := h
  obtain ⟨aN, capN, rfl⟩ := h.rN.form
  have hr := ref_may h.rk
  have hlo := hP.lo
  have HW := hide2 h
  clear h
  go_enter Try.func35, Try.ntmps35
  go_wp2_with fail
  refine hr.mono ?_
  rintro e w1 ⟨rfl, hk, hF, hz⟩
  clear hr
  cases ho : offed P.n cut off with
  | true =>
    rw [ho] at hk
    have HK := hide2 hk
    clear hk
    go_wp2
    all_goals
      go_ret
      exact ⟨rfl, HW.out.idle HK.out hF⟩
  | false =>
    rw [ho] at hk
    obtain ⟨c0, c1, c2, c3, c4, c5, c6⟩ := hk.cells
    have f1 := hk.free 1
    have f2 := hk.free 2
    have f4 := hk.free 4
    by_cases hop : 65536 ≤ P.n
    · have ea : P.syncDir = (23, P) := by
        unfold PD.syncDir
        rw [if_pos hop]
      have HE := hide2 ea
      have HK := hide2 hk
      clear ea hk
      go_wp2
      all_goals
        go_ret
        rw [HE.out]
        exact ⟨rfl, HW.out.idle HK.out hF⟩
    · have ea : P.syncDir = (0, { P with old := P.now, log := [], n := P.n + 1 }) := by
        unfold PD.syncDir
        rw [if_neg hop]
      have hc63 : P.n + 1 < 9223372036854775808 := by omega
      have hd0 : decide (65536 ≤ P.n) = false := by simpa using hop
      have HE := hide2 ea
      have HK := hide2 hk
      clear ea hk
      go_wp2
      all_goals
        go_ret
        rw [HE.out]
        refine ⟨rfl, ?_⟩
        have hF2 : Fr (fun j => j = r) w (((w1.setCell ⟨r, 1, none⟩ (.slice aN (nl P.now).length capN)).setCell ⟨r, 2, none⟩ (.slice none 0 0)).setCell ⟨r, 4, none⟩ (.int .i64 (P.n + 1))) := Fr.setCell (p := ⟨r, 4, none⟩) (Fr.setCell (p := ⟨r, 2, none⟩) (Fr.setCell (p := ⟨r, 1, none⟩) hF (.inl rfl) _) (.inl rfl) _) (.inl rfl) _
        have sm := Sm.of_blk HW.out hF2
        exact ⟨κ, ⟨vF, .slice aN (nl P.now).length capN, .slice none 0 0, .slice aN (nl P.now).length capN, φ, β, (((HK.out.set.2.1 (.slice aN (nl P.now).length capN)).set.2.2.1 (.slice none 0 0)).set.2.2.2.2.1 (P.n + 1)), HW.out.kr, HW.out.oF sm (by simp), HW.out.kF, HW.out.oN sm (by simp), HW.out.kN, World.ownsRow_nil _ _ _ _, (fun g e => by cases e), HW.out.oN sm (by simp), HW.out.kN, fun i x hi => HW.out.oFil sm i x hi (by simp) (by simp), fun g hg => Nat.lt_of_lt_of_le (HW.out.frs g hg) sm.1⟩, fun _ _ => rfl, hF2.mono fun j _ e => by rw [e, HW.out.kr]; exact Ro.noConfusion⟩
end
end Go.Proofs.Ytolaagbdnchhiaa
