/-
  StoreDoes: touches, Steps and Used; a step in a box; both stores behind all steps, Chain by both. (Printed by gen_tbv.py.)
-/
import Derived.Test.YtbhpkidlhhkbmaaGreatDoorTbT
set_option linter.unusedVariables false
set_option linter.unusedSimpArgs false
namespace Go.Proofs.YtbhpkidlhhkbmaaGreatDoor
open Go.RowKit Go.Maps

section
variable {w w' w1 w2 wr : World} {K J K1 : Nat → Prop} {sb d z rb u b0 k : Nat} {A : Stt} {m m1 st : Int} {i : Nat} {x : Stp}
set_option maxRecDepth 100000 in
set_option maxHeartbeats 4000000 in
theorem touches_any (k : Int) (w : World) : Calls Tryz.prog 12 #[.int .i64 k] w fun e w' => ∃ b : Bool, e = .returned (.bool b) ∧ (b = true → Tch k) ∧ w' = w := by
  by_cases k4 : k = 4
  · have HQ : Hid (Tch k) := hide2 (by unfold Tch; omega)
    have e4 : decide (k = 4) = true := by simp; omega
    go_enter Tryz.func12, Tryz.ntmps12
    go_wp2
    go_ret
    exact ⟨true, by simp, fun _ => HQ.out, rfl⟩
  have e4 : decide (k = 4) = false := by simp; omega
  by_cases k5 : k = 5
  · have HQ : Hid (Tch k) := hide2 (by unfold Tch; omega)
    have e5 : decide (k = 5) = true := by simp; omega
    go_enter Tryz.func12, Tryz.ntmps12
    go_wp2
    go_ret
    exact ⟨true, by simp, fun _ => HQ.out, rfl⟩
  have e5 : decide (k = 5) = false := by simp; omega
  by_cases k6 : k = 6
  · have HQ : Hid (Tch k) := hide2 (by unfold Tch; omega)
    have e6 : decide (k = 6) = true := by simp; omega
    go_enter Tryz.func12, Tryz.ntmps12
    go_wp2
    go_ret
    exact ⟨true, by simp, fun _ => HQ.out, rfl⟩
  have e6 : decide (k = 6) = false := by simp; omega
  by_cases k8 : k = 8
  · have HQ : Hid (Tch k) := hide2 (by unfold Tch; omega)
    have e8 : decide (k = 8) = true := by simp; omega
    go_enter Tryz.func12, Tryz.ntmps12
    go_wp2
    go_ret
    exact ⟨true, by simp, fun _ => HQ.out, rfl⟩
  have e8 : decide (k = 8) = false := by simp; omega
  by_cases k9 : k = 9
  · have HQ : Hid (Tch k) := hide2 (by unfold Tch; omega)
    have e9 : decide (k = 9) = true := by simp; omega
    go_enter Tryz.func12, Tryz.ntmps12
    go_wp2
    go_ret
    exact ⟨true, by simp, fun _ => HQ.out, rfl⟩
  have e9 : decide (k = 9) = false := by simp; omega
  by_cases k10 : k = 10
  · have HQ : Hid (Tch k) := hide2 (by unfold Tch; omega)
    have e10 : decide (k = 10) = true := by simp; omega
    go_enter Tryz.func12, Tryz.ntmps12
    go_wp2
    go_ret
    exact ⟨true, by simp, fun _ => HQ.out, rfl⟩
  have e10 : decide (k = 10) = false := by simp; omega
  by_cases k11 : k = 11
  · have HQ : Hid (Tch k) := hide2 (by unfold Tch; omega)
    have e11 : decide (k = 11) = true := by simp; omega
    go_enter Tryz.func12, Tryz.ntmps12
    go_wp2
    go_ret
    exact ⟨true, by simp, fun _ => HQ.out, rfl⟩
  have e11 : decide (k = 11) = false := by simp; omega
  by_cases k12 : k = 12
  · have HQ : Hid (Tch k) := hide2 (by unfold Tch; omega)
    have e12 : decide (k = 12) = true := by simp; omega
    go_enter Tryz.func12, Tryz.ntmps12
    go_wp2
    go_ret
    exact ⟨true, by simp, fun _ => HQ.out, rfl⟩
  have e12 : decide (k = 12) = false := by simp; omega
  by_cases k14 : k = 14
  · have HQ : Hid (Tch k) := hide2 (by unfold Tch; omega)
    have e14 : decide (k = 14) = true := by simp; omega
    go_enter Tryz.func12, Tryz.ntmps12
    go_wp2
    go_ret
    exact ⟨true, by simp, fun _ => HQ.out, rfl⟩
  have e14 : decide (k = 14) = false := by simp; omega
  by_cases k15 : k = 15
  · have HQ : Hid (Tch k) := hide2 (by unfold Tch; omega)
    have e15 : decide (k = 15) = true := by simp; omega
    go_enter Tryz.func12, Tryz.ntmps12
    go_wp2
    go_ret
    exact ⟨true, by simp, fun _ => HQ.out, rfl⟩
  have e15 : decide (k = 15) = false := by simp; omega
  by_cases k7 : k = 7
  · have HQ : Hid (Tch k) := hide2 (by unfold Tch; omega)
    have e7 : decide (k = 7) = true := by simp; omega
    go_enter Tryz.func12, Tryz.ntmps12
    go_wp2
    go_ret
    exact ⟨true, by simp, fun _ => HQ.out, rfl⟩
  have e7 : decide (k = 7) = false := by simp; omega
  go_enter Tryz.func12, Tryz.ntmps12
  go_wp2
  go_ret
  exact ⟨false, by simp; omega, fun q => (by cases q), rfl⟩
theorem Re.steps (h : Re w K sb d z m A u) : Calls Tryz.prog 8 #[.pointer (some ⟨d, 0, none⟩)] w fun e w' => e = .returned (.int .i64 m) ∧ w' = w := by
  obtain ⟨g, m0, m1, m2, T, N, F, own, pl, k1, h, r⟩ := h
  exact Steps_any h.aw
theorem Re.usedE (h : Re w K sb d z m A u) : Calls Tryz.prog 13 #[.pointer (some ⟨d, 0, none⟩)] w fun e w' => e = .returned (.int .i64 (u : Nat)) ∧ w' = w := by
  have h0 := h.m0
  exact (h.rp (M := m.toNat) (by omega)).used
/-- Both stores, with a step in a box. -/
structure Bx (w wr : World) (K J : Nat → Prop) (sb d z rb : Nat) (A : Stt) (u : Nat) (m st : Int) (i b0 : Nat) (x : Stp) : Prop where
  q : Bq w wr K J sb d z rb A u m st i
  bk : wr.heap[b0]? = some (.cells #[.int .i64 x.kd, .int .i64 x.a, .int .i64 x.b, .int .i64 x.c, .int .u64 x.v, .int .u64 x.x, .string x.t] 39 (0, 0))
  nk : ¬ (K b0 ∨ J b0)
theorem Bq.boxed (h : Bq w wr K J sb d z rb A u m st i) (x : Stp) : Bx w (wr.alloc (.cells #[.int .i64 x.kd, .int .i64 x.a, .int .i64 x.b, .int .i64 x.c, .int .u64 x.v, .int .u64 x.x, .string x.t] 39)) K J sb d z rb A u m st i wr.heap.size x := by
  have hb : Below wr.heap.size wr (wr.alloc (.cells #[.int .i64 x.kd, .int .i64 x.a, .int .i64 x.b, .int .i64 x.c, .int .u64 x.v, .int .u64 x.x, .string x.t] 39)) := (Below.refl _ _).alloc (Nat.le_refl _) _
  have hsz := h.bl.size
  refine ⟨⟨h.bo.below hb, h.kb, h.bl.trans ⟨hb.os, hb.tape, hb.output, hb.size, fun j hj => hb.block j (by omega)⟩⟩, heap_alloc_new wr _, fun e => ?_⟩
  rcases e with e | e
  · have := h.bo.p.kl _ e
    omega
  · obtain ⟨vn, vv, vt, hR⟩ := h.bo.r
    have := hR.jl _ e
    omega
theorem Bx.step {tch : Prop} (h : Bx w w1 K J sb d z rb A u m st i b0 x) (hr : BoR w1 w2 K J sb d z rb m st (i + 1) tch) : ∃ K' J' A' u' m' st', Bx w w2 K' J' sb d z rb A' u' m' st' (i + 1) b0 x ∧ (tch → m' - m = st' - st) := by
  have hlt := (Array.getElem?_eq_some_iff.1 h.bk).1
  obtain ⟨K', J', A', u', m', st', hB, ht, hk, hF⟩ := hr
  refine ⟨K', J', A', u', m', st', ⟨⟨hB, fun j e => ?_, h.q.bl.trans (hF.to (fun j hj e => ?_) h.q.bl.size)⟩, (hF.block _ hlt h.nk).trans h.bk, fun e => h.nk ((hk _ hlt).1 e)⟩, ht⟩
  · rcases Nat.lt_or_ge j w1.heap.size with q | q
    · exact h.q.kb j ((hk j q).1 e)
    · have := h.q.bl.size
      omega
  · have := h.q.kb j e
    omega
theorem Bx.cells (h : Bx w wr K J sb d z rb A u m st i b0 x) : wr.cell? ⟨b0, 0, none⟩ = some (.int .i64 x.kd) ∧ wr.cell? ⟨b0, 1, none⟩ = some (.int .i64 x.a) ∧ wr.cell? ⟨b0, 2, none⟩ = some (.int .i64 x.b) ∧ wr.cell? ⟨b0, 3, none⟩ = some (.int .i64 x.c) ∧ wr.cell? ⟨b0, 4, none⟩ = some (.int .u64 x.v) ∧ wr.cell? ⟨b0, 5, none⟩ = some (.int .u64 x.x) ∧ wr.cell? ⟨b0, 6, none⟩ = some (.string x.t) := by
  have h := h.bk
  refine ⟨?_, ?_, ?_, ?_, ?_, ?_, ?_⟩ <;> (rw [Go.Joins.cell_of_block h]; rfl)
theorem Bo.stc (h : Bo wr K J sb d z rb A u m st i) : wr.cell? ⟨rb, 3, none⟩ = some (.int .i64 ((z : Int) - (u : Int))) ∧ wr.cell? ⟨rb, 4, none⟩ = some (.int .i64 st) := by
  obtain ⟨vn, vv, vt, hR⟩ := h.r
  exact hR.cells.2.2.2
/-- Both stores behind all steps. -/
structure Bp (w wr : World) (K J : Nat → Prop) (sb d z rb : Nat) (A : Stt) (u : Nat) (m st : Int) (k : Nat) : Prop where
  p : Re wr K sb d z m A u
  r : Rf wr J rb A ((z : Int) - (u : Int)) st
  ap : ∀ j, K j → ¬ J j
  la : ∀ c, A.la c ≤ 6000
  mm : m ≤ 60000010 + 10000 * (k : Int)
  kb : ∀ j, K j ∨ J j → w.heap.size ≤ j
  bl : Below w.heap.size w wr
theorem Bq.bp (h : Bq w wr K J sb d z rb A u m st i) : Bp w wr K J sb d z rb A u m st 0 :=
  ⟨h.bo.p, h.bo.r, h.bo.ap, fun c => by have := h.bo.la c; have := h.bo.ii; omega, by have := h.bo.mi; have := h.bo.ii; omega, h.kb, h.bl⟩
theorem Bp.form (h : Bp w wr K J sb d z rb A u m st k) : ∃ vo vc, wr.cell? ⟨rb, 0, none⟩ = some (.slice vo (A.la 0) vc) := by
  obtain ⟨vn, vv, vt, hR⟩ := h.r
  obtain ⟨vo, vc, ev⟩ := hR.rn.form
  exact ⟨vo, vc, by rw [hR.cells.1, ev]⟩
theorem tw_Chain2 (h : Bp w wr K J sb d z rb A u m st k) (hk : k ≤ 10000) {n : Int} (hn : i64ok n) : ∃ l : List Nat, l.length ≤ 9000 ∧
    (Calls Tryz.prog 14 #[.pointer (some ⟨sb, 0, none⟩), .int .i64 n] wr fun e w' => ∃ v, e = .returned v ∧ Hr w' wr.heap.size v l ∧ ∃ m', m' ≤ m + 10000 ∧ ∃ K', Re w' K' sb d z m' A u ∧ (∀ j, j < wr.heap.size → (K' j ↔ K j)) ∧ Fr K wr w' ∧ ∀ j, v.ownBlock = some j → ¬ K' j) ∧
    (∀ w1, Rf w1 J rb A ((z : Int) - (u : Int)) st → Calls Tryz.prog 16 #[.pointer (some ⟨rb, 0, none⟩), .int .i64 n] w1 fun e w' => ∃ v, e = .returned v ∧ Hr w' w1.heap.size v l ∧ Fr (fun _ => False) w1 w') := by
  have hm0 := h.p.m0
  have hp := h.p.rp (M := m.toNat) (by omega)
  have hM : m.toNat < 1000000000 := by have := h.mm; omega
  have hok := h.p.ok
  rcases lvI_cases (A := A) 0 n with ⟨k, rfl, hk⟩ | ⟨h1, h2⟩
  · have hnb := hok.n1 0 k hk
    obtain ⟨k, rfl⟩ : ∃ q, k = q + 1 := ⟨k - 1, by omega⟩
    have hla := h.la 1
    have hhd := hok.hd (k + 1) hk
    obtain ⟨l, hl, hll⟩ := ch_ex hok (A.la 1 + 1) (A.va 0 (k + 1)) (by omega)
    refine ⟨l, by omega, (chain_any hp hk hl (by omega) (by omega)).mono fun e w' q => ?_, fun w1 hr => ?_⟩
    · obtain ⟨v, rfl, hv, K', hr, hk', hF, hno⟩ := q
      obtain ⟨m', hm', hr⟩ := hr.re
      exact ⟨v, rfl, hv, m', by omega, K', hr, hk', hF, hno⟩
    · obtain ⟨vn, vv, vt, hr⟩ := hr
      exact rChain_in hr hk hl (by omega)
  · refine ⟨[], by simp, (Chain_out hp hn.1 hn.2 h2).mono fun e w' q => ?_, fun w1 hr => ?_⟩
    · exact ⟨_, q.1, ⟨rfl, .inl ⟨rfl, rfl⟩⟩, m, by omega, K, h.p.below q.2, fun _ _ => Iff.rfl, Fr.below q.2, fun j e => by cases e⟩
    · obtain ⟨vn, vv, vt, hr⟩ := hr
      exact (ChainR_out hr h1).mono fun e w' q => ⟨_, q.1, ⟨rfl, .inl ⟨rfl, rfl⟩⟩, by rw [q.2]; exact Fr.refl _ _⟩
theorem Bp.mid (h : Bp w wr K J sb d z rb A u m st k) (hF : Fr K wr w1) : Rf w1 J rb A ((z : Int) - (u : Int)) st :=
  h.r.keep hF (fun j e q => h.ap j q e)
theorem Bp.next (h : Bp w wr K J sb d z rb A u m st k) (hm : m1 ≤ m + 10000) (hr : Re w1 K1 sb d z m1 A u) (hk : ∀ j, j < wr.heap.size → (K1 j ↔ K j)) (hF : Fr K wr w1) (hG : Fr (fun _ => False) w1 w2) : Bp w w2 K1 J sb d z rb A u m1 st (k + 1) := by
  have hsz := h.bl.size
  refine ⟨hr.keep hG (fun _ _ e => e) (fun e => e), (h.mid hF).keep hG (fun _ _ e => e), fun j e q => ?_, h.la, by have := h.mm; omega, fun j e => ?_, ?_⟩
  · obtain ⟨vn, vv, vt, hR⟩ := h.r
    have := hR.jl _ q
    exact h.ap j ((hk j this).1 e) q
  · rcases e with e | e
    · rcases Nat.lt_or_ge j wr.heap.size with q | q
      · exact h.kb j (.inl ((hk j q).1 e))
      · omega
    · exact h.kb j (.inr e)
  · have h1 : Below w.heap.size wr w1 := hF.to (fun j hj e => by have := h.kb j (.inl e); omega) hsz
    have h2 : Below w.heap.size w1 w2 := hG.to (fun j hj e => e) (by have := hF.size; omega)
    exact (h.bl.trans h1).trans h2
end
end Go.Proofs.YtbhpkidlhhkbmaaGreatDoor
