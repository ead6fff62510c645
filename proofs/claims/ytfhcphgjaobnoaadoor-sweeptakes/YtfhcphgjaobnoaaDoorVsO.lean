/-
  Layer 15: have two stores the same chains: the law's same; chains that come in, opened.
-/
import Derived.Test.YtfhcphgjaobnoaaDoorVsN
set_option linter.unusedVariables false
set_option linter.unusedSimpArgs false
namespace Go.Proofs.YtfhcphgjaobnoaaDoor
open Go.RowKit Go.Maps

section
variable {w wr : World} {K J : Nat → Prop} {sb d rb M u : Nat} {A : Stt} {st : Int}
set_option maxRecDepth 100000 in
set_option maxHeartbeats 4000000 in
theorem vsame_any {m M2 : Nat} {nv : Value} (h : Ld w wr K J sb d rb M A u st) (hn : Hr wr w.heap.size nv (List.range' 1 m)) (hna : ∀ j, nv.ownBlock = some j → ¬ (K j ∨ J j)) (hm : m ≤ 1000) (hla : A.la 1 ≤ 5000) (hM : M < 1000000000) (hw : 0 < w.heap.size) :
    Calls Tryd.prog 22 #[.pointer (some ⟨sb, 0, none⟩), .pointer (some ⟨rb, 0, none⟩), nv] wr fun e w' => e = .returned (.bool true) ∧ ∃ K' J', Ld w w' K' J' sb d rb (M + 6000 * m) A u st := by
  obtain ⟨na, ncp, ev⟩ := hn.form
  rw [List.length_range'] at ev
  subst ev
  have H := hide2 h
  have HN := hide2 hn
  have HNA := hide2 hna
  clear h hn hna
  go_enter Tryd.func22, Tryd.ntmps22
  go_wp2
  go_loopw [7] (fun a w3 => ∃ (k M3 : Nat) (K3 J3 : Nat → Prop), k ≤ m ∧ a = .int .i64 k ∧ M3 ≤ M + 6000 * k ∧ Hid (Ld w w3 K3 J3 sb d rb M3 A u st) ∧ Hid (Hr w3 w.heap.size (.slice na m ncp) (List.range' 1 m)) ∧ Hid (∀ j, (Value.slice na m ncp).ownBlock = some j → ¬ (K3 j ∨ J3 j))) (fun a _ => m - (intOf a).toNat)
  case atStart => exact ⟨0, M, K, J, by omega, rfl, by omega, H, HN, HNA⟩
  case round =>
    clear H HN HNA
    obtain ⟨k, M3, K3, J3, hk, rfl, hM3, L3, N3, A3⟩ := hrel
    by_cases hkm : k < m
    · have hkm2 : (k : Int) < (m : Int) := by omega
      obtain ⟨g0, cap0, evn, c0⟩ := N3.out.at (i := k) (by rw [List.length_range']; exact hkm)
      rw [range_getD hkm] at c0
      rw [List.length_range'] at evn
      injection evn with e1 e2 e3
      subst e1 e3
      have hg0 := (World.ownsRow.lt N3.out g0 rfl).2
      obtain ⟨l, hc, hll⟩ := chN_ex L3.out.p.ok ((k + 1 : Nat) : Int)
      have HCP := hide2 (chainN_any L3.out.p ⟨by omega, by omega⟩ hc (by omega) (by omega))
      have HC := hide2 hc
      clear hc
      go_wp2_with fail
      refine HCP.out.mono ?_
      rintro e w4 ⟨v, rfl, hv, K4, hR4, hk4, hF4, hv4⟩
      obtain ⟨la, lc, ev⟩ := hv.form
      subst ev
      have hs4 := hF4.size
      have hmid : Rf w4 J3 rb A ((4000 : Int) - (u : Int)) st := L3.out.r.keep hF4 (fun j hj q => L3.out.ap j q hj)
      have q0 : w4.cell? ⟨g0, k, none⟩ = some (.int .i64 ((k + 1 : Nat) : Int)) := (hF4.cell (p := ⟨g0, k, none⟩) hg0 (fun q => A3.out g0 rfl (.inl q))).trans c0
      have hg4 : g0 < w4.heap.size := by omega
      have HCR := hide2 (rchainN hmid HC.out (by omega))
      have HV := hide2 hv
      have HAFT : Hid (Aft wr w4 K3 sb d 4000 (M3 + 2 + l.length) A u) := hide2 ⟨K4, hR4, hk4, hF4⟩
      have HMID := hide2 hmid
      clear HCP hv hR4 hk4 hF4 hv4 hmid c0 hg0
      go_wp2_with fail
      refine HCR.out.mono ?_
      rintro e w5 ⟨v2, rfl, hv2, hb5⟩
      obtain ⟨la2, lc2, ev⟩ := hv2.form
      subst ev
      obtain ⟨K5, J5, L5, k5, f5⟩ := L3.out.fin HAFT.out (⟨J3, HMID.out.below hb5, fun _ _ => Iff.rfl, Fr.below hb5⟩ : Raf w4 w5 J3 rb A ((4000 : Int) - (u : Int)) st) rfl
      have hs5 := hb5.size
      have r1 := hrow_fr HV.out (Fr.below (F := fun _ => False) hb5) (fun _ _ => id)
      have HR1 : Hid (Hr w5 wr.heap.size (.slice la l.length lc) l) := hide2 r1
      have HR2 := hide2 hv2
      have HL5 := hide2 L5
      have HN5 : Hid (Hr w5 w.heap.size (.slice (some ⟨g0, 0, none⟩) m ncp) (List.range' 1 m)) := hide2 (N3.out.fr f5 A3.out)
      have HA5 : Hid (∀ j, (Value.slice (some ⟨g0, 0, none⟩) m ncp).ownBlock = some j → ¬ (K5 j ∨ J5 j)) := hide2 (fun j e q => A3.out j e ((k5 j (World.ownsRow.lt N3.out j e).2).1 q))
      have hll9 : l.length ≤ 5001 := by omega
      clear HCR hv2 hb5 L5 k5 f5 r1 HV HAFT HMID L3 N3 A3 q0 hg4
      go_wp2
      go_loopw [10] (fun a w6 => ∃ (q : Nat), q ≤ l.length ∧ a = .int .i64 q ∧ Hid (Fr (fun _ => False) w5 w6)) (fun a _ => l.length - (intOf a).toNat)
      case atStart => exact ⟨0, by omega, rfl, hide2 (Fr.refl _ _)⟩
      case round =>
        obtain ⟨q, hq, rfl, FQ⟩ := hrel
        have hszq := FQ.out.size
        by_cases hql : q < l.length
        · have hql2 : (q : Int) < (l.length : Int) := by omega
          obtain ⟨g1, cap1, ev1, c1⟩ := HR1.out.at hql
          obtain ⟨g2, cap2, ev2, c2⟩ := HR2.out.at hql
          have hg1 := (World.ownsRow.lt HR1.out g1 (by rw [ev1]; rfl)).2
          have hg2 := (World.ownsRow.lt HR2.out g2 (by rw [ev2]; rfl)).2
          injection ev1 with e1 e2 e3
          injection ev2 with f1 f2 f3
          subst e1 e3 f1 f3
          obtain ⟨y, hy⟩ : ∃ y, y = l.getD q 0 := ⟨_, rfl⟩
          rw [← hy] at c1 c2
          have k1 := (FQ.out.cell (p := ⟨g1, q, none⟩) hg1 id).trans c1
          have k2 := (FQ.out.cell (p := ⟨g2, q, none⟩) hg2 id).trans c2
          have j1 : g1 < wr.heap.size := by omega
          have j2 : g2 < wr.heap.size := by omega
          clear hy c1 c2
          go_wp2
          go_quiet (fail)
          go_wp2
          go_roundw
          case rel => exact ⟨q + 1, by omega, by go_num, hide2 (FQ.out.drewN _)⟩
          case measure => simp [intOf]; omega
        · obtain rfl : q = l.length := by omega
          have hql2 : ¬ (l.length : Int) < (l.length : Int) := by omega
          have HL6 : Hid (Ld w wr K5 J5 sb d rb (M3 + 2 + l.length) A u st) := hide2 (HL5.out.below (FQ.out.to (fun _ _ e => e) (Nat.le_refl _)))
          have HN6 : Hid (Hr wr w.heap.size (.slice (some ⟨g0, 0, none⟩) m ncp) (List.range' 1 m)) := hide2 (HN5.out.fr FQ.out (fun _ _ => id))
          go_wp2
          go_roundw
          case rel => exact ⟨k + 1, M3 + 2 + l.length, K5, J5, by omega, by go_num, by omega, HL6, HN6, HA5⟩
          case measure => simp [intOf]; omega
    · obtain rfl : k = m := by omega
      have hkm2 : ¬ (k : Int) < (k : Int) := by omega
      have HF : Hid (∃ K' J', Ld w wr K' J' sb d rb (M + 6000 * k) A u st) := hide2 ⟨K3, J3, L3.out.up hM3⟩
      clear L3 N3 A3
      go_wp2
      go_ret
      exact ⟨rfl, HF.out⟩
end
end Go.Proofs.YtfhcphgjaobnoaaDoor
