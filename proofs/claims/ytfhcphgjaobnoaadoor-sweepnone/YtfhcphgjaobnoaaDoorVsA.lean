/-
  Layer 15: an operation is stepped to its end; the law's example; SweepLeast, SweepNone, SweepMarks.
-/
import Derived.Test.YtfhcphgjaobnoaaDoorVs9
import Derived.Test.YtfhcphgjaobnoaaDoorTaD
set_option linter.unusedVariables false
set_option linter.unusedSimpArgs false
namespace Go.Proofs.YtfhcphgjaobnoaaDoor
open Go.RowKit Go.Maps

section
variable {w w' : World} {K Q : Nat → Prop} {sb d z M u B ob g : Nat} {A : Stt} {mark n : Int} {xs : List Int} {l : List Nat}
set_option maxRecDepth 100000 in
set_option maxHeartbeats 2000000 in
theorem done_zero {p : Addr} (h : Opm w B Q ob (some p) [] mark g false) (hg : g < 1000000000) {most : Int} (hm : 1 ≤ most) (hm9 : most ≤ 1000000000000) :
    Calls Tryd.prog 19 #[.pointer (some ⟨ob, 0, none⟩), .int .i64 most] w fun e w' => e = .returned (.int .i64 1) ∧ Opm w' B Q ob (some p) [] mark g true ∧ Fr Q w w' := by
  have HS := hide2 (ostep_zero h hg)
  clear h
  go_enter Tryd.func19, Tryd.ntmps19
  go_wp2
  go_loopw [5] (fun a wr => a = .int .i64 1 ∧ wr = w) (fun _ _ => 0)
  case atStart => exact ⟨rfl, rfl⟩
  case round =>
    obtain ⟨rfl, rfl⟩ := hrel
    go_wp2_with fail
    refine HS.out.mono ?_
    rintro e w1 ⟨rfl, q1, q2⟩
    have Q1 := hide2 q1
    have Q2 := hide2 q2
    clear HS q1 q2
    go_wp2
    go_ret
    exact ⟨rfl, Q1.out, Q2.out⟩
set_option maxRecDepth 100000 in
set_option maxHeartbeats 4000000 in
theorem done_any (h : Rp w K sb d z M A u) (hO : Opm w B Q ob (some ⟨sb, 0, none⟩) xs mark 0 false) (hB : 0 < B) (hap : ∀ j, Q j → ¬ K j) (hxs : ∀ x ∈ xs, i64ok x) (hne : 0 < xs.length) (hla : A.la 1 ≤ 5000) (hlen : xs.length ≤ 1000) (hM : M < 3000000000000000000) (hu : u ≤ 1000000) {most : Int} (hm : (xs.length : Int) ≤ most) (hm9 : most ≤ 1000000000000) :
    Calls Tryd.prog 19 #[.pointer (some ⟨ob, 0, none⟩), .int .i64 most] w fun e w' => e = .returned (.int .i64 (xs.length : Nat)) ∧ ∃ A' G K', Sws mark A xs A' G ∧ 3 * G ≤ u ∧ A'.la = A.la ∧ Rp w' K' sb d z (M + 30000 * xs.length) A' (u - 3 * G) ∧ Opm w' B Q ob (some ⟨sb, 0, none⟩) [] mark G true ∧ (∀ j, j < w.heap.size → (K' j ↔ K j)) ∧ Fr (fun j => K j ∨ Q j) w w' ∧ ∀ j, Q j → ¬ K' j := by
  have H0 := hide2 h
  have HO0 := hide2 hO
  have HAP := hide2 hap
  have HXS := hide2 hxs
  clear h hO hap hxs
  go_enter Tryd.func19, Tryd.ntmps19
  go_wp2
  go_loopw [5] (fun a wr => ∃ (k : Nat) (A1 : Stt) (G1 : Nat) (K1 : Nat → Prop), k < xs.length ∧ a = .int .i64 ((k : Int) + 1) ∧ Hid (Sws mark A (xs.take k) A1 G1) ∧ 3 * G1 ≤ u ∧ Hid (A1.la = A.la) ∧ Hid (Rp wr K1 sb d z (M + 30000 * k) A1 (u - 3 * G1)) ∧ Hid (Opm wr B Q ob (some ⟨sb, 0, none⟩) (xs.drop k) mark G1 false) ∧ Hid (∀ j, j < w.heap.size → (K1 j ↔ K j)) ∧ Hid (Fr (fun j => K j ∨ Q j) w wr) ∧ Hid (∀ j, Q j → ¬ K1 j)) (fun a _ => xs.length + 1 - (intOf a).toNat)
  case atStart => exact ⟨0, A, 0, K, hne, rfl, hide2 ⟨rfl, rfl⟩, by omega, hide2 rfl, H0, HO0, hide2 (fun _ _ => Iff.rfl), hide2 (Fr.refl _ _), HAP⟩
  case round =>
    clear H0 HO0 HAP
    obtain ⟨k, A1, G1, K1, hk, rfl, SW, hG, LA, P, O, HK, HF, AP⟩ := hrel
    obtain ⟨x, hx⟩ := some_at (l := xs) rfl hk
    have hx2 : i64ok x := HXS.out x (List.mem_of_getElem? hx)
    have hdr : xs.drop k = x :: xs.drop (k + 1) := by
      rw [List.drop_eq_getElem_cons hk]
      rw [List.getElem?_eq_getElem hk] at hx
      rw [Option.some.inj hx]
    obtain ⟨l, hc, hll⟩ := chN_ex P.out.ok x
    have hla1 : A1.la 1 ≤ 5000 := by rw [LA.out]; exact hla
    have hO2 := O.out
    rw [hdr] at hO2
    have HST := hide2 (ostep_cons P.out hO2 hB AP.out hx2 hc (by omega) (by omega) (by omega))
    have HTK := hide2 (take_snoc hx)
    have HC := hide2 hc
    have hdl : (xs.drop (k + 1)).length = xs.length - (k + 1) := by simp
    have hgl : goneN mark A1 l ≤ l.length := by unfold goneN; omega
    have hle : ((k : Int) + 1) ≤ most := by omega
    have FIN : Hid (∀ wq K', 3 * goneN mark A1 l ≤ u - 3 * G1 → Opm wq B Q ob (some ⟨sb, 0, none⟩) (xs.drop (k + 1)) mark (G1 + goneN mark A1 l) (xs.drop (k + 1)).isEmpty → Rp wq K' sb d z (M + 30000 * k + 10 + 5 * l.length) (swpA mark A1 x.toNat l) (u - 3 * G1 - 3 * goneN mark A1 l) → (∀ j, j < wr.heap.size → (K' j ↔ K1 j)) → Fr (fun j => K1 j ∨ Q j) wr wq → (∀ j, Q j → ¬ K' j) → Hid (Sws mark A (xs.take (k + 1)) (swpA mark A1 x.toNat l) (G1 + goneN mark A1 l)) ∧ 3 * (G1 + goneN mark A1 l) ≤ u ∧ Hid ((swpA mark A1 x.toNat l).la = A.la) ∧ Hid (Rp wq K' sb d z (M + 30000 * (k + 1)) (swpA mark A1 x.toNat l) (u - 3 * (G1 + goneN mark A1 l))) ∧ Hid (∀ j, j < w.heap.size → (K' j ↔ K j)) ∧ Hid (Fr (fun j => K j ∨ Q j) w wq)) := hide2 (fun wq K' g1 g2 g3 g4 g5 g6 => by
      have hs := HF.out.size
      have eu : u - 3 * (G1 + goneN mark A1 l) = u - 3 * G1 - 3 * goneN mark A1 l := by omega
      refine ⟨hide2 (by rw [HTK.out]; exact SW.out.snoc HC.out), by omega, hide2 (by rw [swpA_la]; exact LA.out), hide2 (by rw [eu]; exact g3.up (by omega)), hide2 (fun j hj => (g4 j (by omega)).trans (HK.out j hj)), hide2 (HF.out.trans g5 (fun j e => ?_))⟩
      rcases e with e | e
      · rcases Nat.lt_or_ge j w.heap.size with q | q
        · exact .inl (.inl ((HK.out j q).1 e))
        · exact .inr q
      · exact .inl (.inr e))
    clear hc hO2 hdr hx HTK HC SW LA P HK HF
    by_cases hlast : k + 1 = xs.length
    · have hem : (xs.drop (k + 1)).isEmpty = true := by rw [hlast]; simp
      rw [hem] at HST FIN
      have HEM := hide2 hem
      clear hem
      go_wp2_with fail
      refine HST.out.mono ?_
      rintro e w1 ⟨rfl, g1, g2, K', g3, g4, g5, g6⟩
      have HR := hide2 (FIN.out w1 K' g1 g2 g3 g4 g5 g6)
      have HG2 := hide2 g2
      have HG6 := hide2 g6
      clear HST FIN g1 g2 g3 g4 g5 g6
      go_wp2
      go_ret
      obtain ⟨r1, r2, r3, r4, r5, r6⟩ := HR.out
      have r1 := r1.out
      rw [hlast, List.take_length] at r1
      have g2 := HG2.out
      rw [hlast, List.drop_length] at g2
      have r4 := r4.out
      rw [hlast] at r4
      refine ⟨?_, _, _, _, r1, r2, r3.out, r4, g2, r5.out, r6.out, HG6.out⟩
      rw [← hlast]
      rfl
    · have hem : (xs.drop (k + 1)).isEmpty = false := by
        cases hq : xs.drop (k + 1) with
        | nil => rw [hq] at hdl; simp at hdl; omega
        | cons a b => rfl
      rw [hem] at HST FIN
      clear hem
      go_wp2_with fail
      refine HST.out.mono ?_
      rintro e w1 ⟨rfl, g1, g2, K', g3, g4, g5, g6⟩
      have HR := hide2 (FIN.out w1 K' g1 g2 g3 g4 g5 g6)
      have HG2 := hide2 g2
      have HG6 := hide2 g6
      clear HST FIN g1 g2 g3 g4 g5 g6
      go_wp2
      go_roundw
      case rel =>
        obtain ⟨r1, r2, r3, r4, r5, r6⟩ := HR.out
        exact ⟨k + 1, _, _, K', by omega, by go_num, r1, r2, r3, r4, HG2, r5, r6, HG6⟩
      case measure => simp [intOf]; omega
end
end Go.Proofs.YtfhcphgjaobnoaaDoor
