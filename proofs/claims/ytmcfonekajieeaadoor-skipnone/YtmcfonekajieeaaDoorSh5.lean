/-
  An operation alone; the law's done.
-/
import Derived.Test.YtmcfonekajieeaaDoorSh3
import Derived.Test.YtmcfonekajieeaaDoorSh4
set_option linter.unusedVariables false
set_option linter.unusedSimpArgs false
namespace Go.Proofs.YtmcfonekajieeaaDoor
open Go.RowKit Go.Maps

theorem cells_len (s : Sl) : s.cells.length = ((ks s).map fun x => x.2.2).sum + s.sp.length := by
  unfold Sl.cells Sl.own ks
  rw [List.length_append, List.length_flatten, List.map_map, List.map_map]
  congr 2
  apply List.map_congr_left
  intro t _
  simp [Tw.cells]
section
variable {s s' s'' : Sl} {k : ByteArray} {kind : Nat} {r : Int} {h p z : Nat} {o o' : Opm}
theorem Alo.room (a : Alo s k kind r h p s' o) (hsp : s.sp = []) (hz : kind = 2 → s.cells.length + h ≤ z) : o.st = 2 → o.cs.length < o.h → s'.cells.length < z := by
  intro h2 hl
  have hk : kind = 2 := by rw [← a.ekind]; exact (a.oi.two h2).2.2.1
  have h1 := hz hk
  have h3 := (a.eh hk).1
  rcases a.ph with q | q | q
  · omega
  · rw [cells_len, q.2.1, q.2.2.1]
    rw [cells_len, hsp] at h1
    simp at h1
    omega
  · omega
theorem Alo.st3 (a : Alo s k kind r h p s' o) : o.st = 1 ∨ o.st = 2 ∨ o.st = 3 := by
  rcases a.ph with q | q | q <;> omega
theorem Alo.step (a : Alo s k kind r h p s' o) (hok : s.ok) (hok' : s'.ok) (hsp : s.sp = []) (hs : Stp z s' o s'' o') : (Fin s k kind r h s'' o') ∨ (o'.st ≠ 5 ∧ Alo s k kind r h (p - 1) s'' o') := by
  rcases a.st3 with q | q | q
  · exact a.look hok hsp q hs
  · exact a.put hok' q hs
  · exact a.raise hok' q hs
theorem Alo.start (hok : s.ok) (hk2 : kind ≠ 0 → kind ≠ 1 → kind = 2) (hh : kind = 2 → good k = true ∧ 1 ≤ h ∧ h ≤ 8) : Alo s k kind r h (s.tw.length - 1 + 8 + (if kind = 2 then 2 * h else 0)) s { opS kind k with r := r, h := h } := by
  have hn : ∀ l, ((7 : Nat) < l ∨ (1 : Nat) ≠ 1) → l < 8 → False := fun l q h8 => by omega
  have hc := cnt_le s 0 k
  refine ⟨⟨show 7 < 8 by decide, fun l h1 h8 => ⟨hok.n1, ?_, .inl rfl⟩, fun l q h1 h8 => (hn l q h8).elim, fun q => absurd q (show ¬ (1 : Nat) = 2 by decide), fun q => absurd q (show ¬ (1 : Nat) = 3 by decide), fun q => absurd rfl q, fun _ => ⟨fun c hc => ?_, ?_⟩, fun q => (hh q).2, ?_⟩, rfl, rfl, rfl, fun q => ⟨rfl, (hh q).2⟩, rfl, rfl, fun q => (hh q).1, fun q => absurd rfl q, hk2, fun l q h1 h8 => (hn l q h8).elim, .inl ⟨rfl, rfl, rfl, rfl, ?_⟩⟩
  · show l < (s.at 0).lk
    rw [hok.hd.2.2.1]; exact h8
  · exact absurd hc (by simp [opS])
  · simp [opS]
  · simp [opS]
  · show cnt s 0 k + 7 + 1 + _ ≤ _
    omega
end
section
variable {w : World} {K B : Nat → Prop} {lb d z M : Nat} {s : Sl} {ob : Nat} {cv : Value} {o : Opm} {k : ByteArray} {kind : Nat} {r : Int} {h : Nat}
theorem LT.ok (h : LT w K lb d z M s) : s.ok := by
  obtain ⟨g, gt, tc, sv, T, N, m, F, hL, hok, r⟩ := h
  exact hok
theorem LT.up {M' : Nat} (h : LT w K lb d z M s) (hM : M ≤ M') : LT w K lb d z M' s := by
  obtain ⟨g, gt, tc, sv, T, N, m, F, hL, hok, hcw, hz, m1, m2⟩ := h
  exact ⟨g, gt, tc, sv, T, N, m, F, hL, hok, hcw, hz, m1, by omega⟩
theorem LT.kl (h : LT w K lb d z M s) : ∀ j, K j → j < w.heap.size := by
  obtain ⟨g, gt, tc, sv, T, N, m, F, hL, r⟩ := h
  exact hL.kl
theorem LT.keep {G : Nat → Prop} {w' : World} (h : LT w K lb d z M s) (k : Fr G w w') (hG : ∀ j, K j → ¬ G j) (h0 : ¬ G 0) : LT w' K lb d z M s := by
  obtain ⟨g, gt, tc, sv, T, N, m, F, hL, hok, hcw, hz, m1, m2⟩ := h
  exact ⟨g, gt, tc, sv, T, N, m, F, hL.keep k hG h0, hok, hcw, hz, m1, m2⟩
theorem LT.below {w' : World} (h : LT w K lb d z M s) (hb : Below w.heap.size w w') : LT w' K lb d z M s :=
  h.keep (Fr.below (F := fun _ => False) hb) (fun _ _ => id) id

set_option maxRecDepth 100000 in
set_option maxHeartbeats 4000000 in
/-- done, of an operation alone. -/
theorem done_alone {p : Nat} {most : Nat} (hl : LT w K lb d z M s) (hsp : s.sp = []) (ho : Ob w B ob lb cv o) (hKB : ∀ j, K j → ¬ B j) (hA : Alo s k kind r h p s o) (hz : kind = 2 → s.cells.length + h ≤ z) (hst : o.st ≠ 5) (hp : p ≤ most) (hmo : most ≤ 1000000) (hM : M < 1000000000000) :
    Calls Tryd.prog 15 #[.pointer (some ⟨ob, 0, none⟩), .int .i64 (most : Int)] w fun e w' => ∃ (n : Nat) (s' : Sl) (o' : Opm) (K' B' : Nat → Prop) (cv' : Value), e = .returned (.int .i64 (n : Int)) ∧ 1 ≤ n ∧ Fin s k kind r h s' o' ∧ LT w' K' lb d z (M + p) s' ∧ Ob w' B' ob lb cv' o' ∧ Nx w w' K B K' B' := by
  have hok := hl.ok
  have H := hide2 hl
  have HO := hide2 ho
  have HA := hide2 hA
  have HKB := hide2 hKB
  have HST := hide2 hst
  have hp1 := hA.pos hst
  have HZ := hide2 hz
  have HOK := hide2 hok
  have HSP := hide2 hsp
  clear hl ho hA hKB hst hz hok hsp
  go_enter Tryd.func15, Tryd.ntmps15
  go_wp2
  go_loopw [5, 6] (fun i _ wr => ∃ (n : Nat) (s' : Sl) (o' : Opm) (K' B' : Nat → Prop) (cv' : Value), n < p ∧ i = .int .i64 ((n : Int) + 1) ∧ Hid (Alo s k kind r h (p - n) s' o') ∧ Hid (LT wr K' lb d z (M + n) s') ∧ Hid (Ob wr B' ob lb cv' o') ∧ Hid (∀ j, K' j → ¬ B' j) ∧ Hid (Nx w wr K B K' B')) (fun i _ _ => p + 1 - (intOf i).toNat)
  case atStart =>
    exact ⟨0, s, o, K, B, cv, hp1, rfl, HA, H, HO, HKB, hide2 (Nx.same HKB.out (Fr.refl _ w))⟩
  case round =>
    obtain ⟨n, s', o', K', B', cv', hn, rfl, A, HH, OO, KK, NN⟩ := hrel
    have hnm : (n : Int) + 1 ≤ (most : Int) := by omega
    have hstep := HH.out.step OO.out KK.out A.out.oi A.out.st3 (A.out.room HSP.out HZ.out) (by omega)
    have HS := hide2 hstep
    clear hstep
    go_wp2_with fail
    refine HS.out.mono ?_
    rintro e w1 ⟨s2, o2, K2, B2, cv2, rfl, hS, h2, ho2, hN2⟩
    have A2 := A.out.step HOK.out HH.out.ok HSP.out hS
    have HN2 := hide2 (NN.out.trans hN2)
    have HK2 := hide2 hN2.ap
    have HH2 := hide2 h2
    have HO2 := hide2 ho2
    clear HS h2 ho2 hN2
    rcases A2 with hfin | ⟨h3, hA2⟩
    · have hd : decide (o2.st = 5) = true := decide_eq_true hfin.1
      have H3 := hide2 hfin
      clear hfin
      go_wp2
      go_ret
      exact ⟨n + 1, s2, o2, K2, B2, cv2, rfl, by omega, H3.out, HH2.out.up (by omega), HO2.out, HN2.out⟩
    · have hd : decide (o2.st = 5) = false := decide_eq_false h3
      have hpp := hA2.pos h3
      have HA2 : Hid (Alo s k kind r h (p - (n + 1)) s2 o2) := hide2 (by rwa [Nat.sub_sub] at hA2)
      clear h3 hA2
      go_wp2
      go_round
      case rel => exact ⟨n + 1, s2, o2, K2, B2, cv2, by omega, by go_num, HA2, hide2 (HH2.out.up (by omega)), HO2, HK2, HN2⟩
      case measure => simp [intOf]; omega
end
end Go.Proofs.YtmcfonekajieeaaDoor
