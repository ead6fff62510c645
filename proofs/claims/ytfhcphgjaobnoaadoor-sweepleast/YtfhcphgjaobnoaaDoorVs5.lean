/-
  Layer 15: look: what is seen of a node's chain.
-/
import Derived.Test.YtfhcphgjaobnoaaDoorVs4
import Derived.Test.YtfhcphgjaobnoaaDoorTbB
set_option linter.unusedVariables false
set_option linter.unusedSimpArgs false
namespace Go.Proofs.YtfhcphgjaobnoaaDoor
open Go.RowKit Go.Maps

section
variable {w w' : World} {K : Nat → Prop} {sb d z M u : Nat} {A : Stt}
theorem sbegin_any (h : Rp w K sb d z M A u) {n : Nat} (hn : A.lv 1 n = true) (hM : M < 3800000000000000000) :
    Calls Tryd.prog 47 #[.pointer (some ⟨sb, 0, none⟩), .int .i64 (n : Int)] w fun e w' => e = .returned (.tuple #[.int .u64 (A.va 2 n), .int .i64 0]) ∧ Aft w w' K sb d z (M + 1) A u := by
  obtain ⟨m, hm, hr⟩ := h.re
  refine (beginE hr hn (by omega)).mono ?_
  rintro e w' ⟨rfl, K', q1, q2, q3⟩
  exact ⟨rfl, K', q1.rp (by omega), q2, q3⟩
theorem lvI_nat {c : Nat} {n : Int} (h : lvI A c n = true) : n = (n.toNat : Int) ∧ A.lv c n.toNat = true := by
  unfold lvI at h
  simp at h
  exact ⟨by omega, h.2⟩
theorem lvI_no {c : Nat} {n : Int} (h : lvI A c n = false) : n < 0 ∨ A.lv c n.toNat = false := by
  unfold lvI at h
  by_cases q : 0 ≤ n
  · simp [q] at h; exact .inr h
  · exact .inl (by omega)
theorem chainN_any (h : Rp w K sb d z M A u) {n : Int} (hn : i64ok n) {l : List Nat} (hc : ChN A n l) (hll : l.length ≤ 1000000) (hM : M < 3800000000000000000) :
    Calls Tryd.prog 46 #[.pointer (some ⟨sb, 0, none⟩), .int .i64 n] w fun e w' => ∃ v, e = .returned v ∧ ChainR w w' K sb d z (M + 2 + l.length) A u l v := by
  rcases hc with ⟨h1, h2⟩ | ⟨h1, rfl⟩
  · obtain ⟨e, h3⟩ := lvI_nat h1
    obtain ⟨k, hk⟩ : ∃ k : Nat, k = n.toNat := ⟨_, rfl⟩
    rw [← hk] at e h2 h3
    rw [e]
    exact chain_any h h3 h2 hll hM
  · refine (Chain_out h hn.1 hn.2 (lvI_no h1)).mono ?_
    rintro e w' ⟨rfl, hb⟩
    exact ⟨_, rfl, ⟨rfl, .inl ⟨rfl, rfl⟩⟩, K, (h.up (by simp)).below hb, fun _ _ => Iff.rfl, Fr.below hb, fun j e => by cases e⟩
/-- What look tells, and leaves. -/
def LookR (w w' : World) (K : Nat → Prop) (sb d z M : Nat) (A : Stt) (u : Nat) (l : List Nat) (v : Value) : Prop :=
  ∃ u0 u1 u2, v = .agg #[u0, u1, u2] ∧ Hr w' w.heap.size u0 l ∧ Ur w' w.heap.size u1 (l.map (A.va 2)) ∧ Ur w' w.heap.size u2 (l.map (A.va 3)) ∧
    ∃ K', Rp w' K' sb d z M A u ∧ (∀ j, j < w.heap.size → (K' j ↔ K j)) ∧ Fr K w w' ∧ ∀ j, (u0.ownBlock = some j ∨ u1.ownBlock = some j ∨ u2.ownBlock = some j) → ¬ K' j

set_option maxRecDepth 100000 in
set_option maxHeartbeats 4000000 in
theorem look_any (h : Rp w K sb d z M A u) {n : Int} (hn : i64ok n) {l : List Nat} (hc : ChN A n l) (hll : l.length < 1000000) (hM : M < 3700000000000000000) :
    Calls Tryd.prog 89 #[.pointer (some ⟨sb, 0, none⟩), .int .i64 n] w fun e w' => ∃ v, e = .returned v ∧ LookR w w' K sb d z (M + 2 + 3 * l.length) A u l v := by
  obtain ⟨wb, hwb⟩ : ∃ q, q = (w.alloc (.cells #[.slice none 0 0, .slice none 0 0, .slice none 0 0] 136)).alloc (.cells #[.slice none 0 0, .slice none 0 0, .slice none 0 0] 136) := ⟨_, rfl⟩
  have hB : Below w.heap.size w wb := by rw [hwb]; exact ((Below.refl _ w).alloc (Nat.le_refl _) _).alloc (by simp) _
  have hsz : wb.heap.size = w.heap.size + 2 := by rw [hwb]; simp
  have bR : wb.heap[w.heap.size]? = some (.cells #[.slice none 0 0, .slice none 0 0, .slice none 0 0] 136 (0, 0)) := by
    rw [hwb, Below.heap_alloc _ _ _ (by simp)]; exact heap_alloc_new w _
  have bG : wb.heap[w.heap.size + 1]? = some (.cells #[.slice none 0 0, .slice none 0 0, .slice none 0 0] 136 (0, 0)) := by
    have := heap_alloc_new (w.alloc (.cells #[.slice none 0 0, .slice none 0 0, .slice none 0 0] 136)) (.cells #[.slice none 0 0, .slice none 0 0, .slice none 0 0] 136)
    rw [hwb]; simpa using this
  have hS : Sg wb w.heap.size (w.heap.size + 1) (.slice none 0 0) (.slice none 0 0) (.slice none 0 0) [] [] [] :=
    ⟨bG, by omega, ⟨rfl, .inl ⟨rfl, rfl⟩⟩, ⟨rfl, .inl ⟨rfl, rfl⟩⟩, ⟨rfl, .inl ⟨rfl, rfl⟩⟩, (by intro e; cases e), (by intro e; cases e), (by intro e; cases e), (by intro j e; cases e), (by intro j e; cases e), (by intro j e; cases e)⟩
  have hkl := h.kl
  have hz0 := h.tab.1
  have HC := hide2 (chainN_any (h.below hB) hn hc (by omega) (by omega))
  have HB := hide2 hB
  have HS := hide2 hS
  have HR := hide2 bR
  have HKL := hide2 hkl
  have hlive : ∀ x ∈ l, A.lv 1 x = true := by
    rcases hc with ⟨_, q⟩ | ⟨_, q⟩
    · exact q.live
    · rw [q]; intro x hx; cases hx
  have HLV := hide2 hlive
  clear h hc hB hS bR bG hkl hlive
  go_enter Tryd.func89, Tryd.ntmps89
  go_wp2_with fail
  rw [← hwb]
  refine HC.out.mono ?_
  rintro e w1 ⟨v, rfl, hHr, K1, hR1, hk1, hF1, hv1⟩
  obtain ⟨ao, cp, ev⟩ := hHr.form
  subst ev
  have hs1 := hF1.size
  have F0 : Fr K w w1 := (Fr.below (F := K) HB.out).trans hF1 (fun j e => .inl e)
  have HS1 : Hid (Sg w1 w.heap.size (w.heap.size + 1) (.slice none 0 0) (.slice none 0 0) (.slice none 0 0) [] [] []) := hide2 (HS.out.keep hF1 (fun j e q => by
    have := HS.out.ge e
    have := HKL.out j q
    omega))
  have HR1 : Hid (w1.heap[w.heap.size]? = some (.cells #[.slice none 0 0, .slice none 0 0, .slice none 0 0] 136 (0, 0))) := hide2 ((hF1.block _ (by omega) (fun q => by have := HKL.out _ q; omega)).trans HR.out)
  have HH := hide2 hHr
  have HP1 := hide2 hR1
  have HK1 : Hid (∀ j, j < wb.heap.size → (K1 j ↔ K j)) := hide2 hk1
  have HV1 := hide2 hv1
  have HF0 := hide2 F0
  have HNK : Hid (∀ j, w.heap.size ≤ j → j < w.heap.size + 2 → ¬ K1 j) := hide2 (fun j a b q => by
    have := HKL.out j ((hk1 j (by omega)).1 q)
    omega)
  clear HC HS HR hHr hR1 hk1 hv1 hF1 F0 HB
  go_wp2
  go_loopw [16] (fun a wr => ∃ (k : Nat) (K1 : Nat → Prop) (u0 u1 u2 : Value), k ≤ l.length ∧ a = .int .i64 k ∧ Hid (Sg wr w.heap.size (w.heap.size + 1) u0 u1 u2 (l.take k) ((l.take k).map (A.va 2)) ((l.take k).map (A.va 3))) ∧ Hid (Rp wr K1 sb d z (M + 2 + l.length + 2 * k) A u) ∧ Hid (∀ j, j < w.heap.size → (K1 j ↔ K j)) ∧ Hid (Fr K w wr) ∧ Hid (∀ j, SgB (w.heap.size + 1) u0 u1 u2 j → ¬ K1 j) ∧ Hid (Hr wr wb.heap.size (.slice ao l.length cp) l) ∧ Hid (∀ j, (Value.slice ao l.length cp).ownBlock = some j → ¬ K1 j ∧ ¬ SgB (w.heap.size + 1) u0 u1 u2 j) ∧ Hid (wr.heap[w.heap.size]? = some (.cells #[.slice none 0 0, .slice none 0 0, .slice none 0 0] 136 (0, 0)) ∧ ¬ K1 w.heap.size ∧ ¬ SgB (w.heap.size + 1) u0 u1 u2 w.heap.size)) (fun a _ => l.length - (intOf a).toNat)
  case atStart =>
    refine ⟨0, K1, .slice none 0 0, .slice none 0 0, .slice none 0 0, by omega, rfl, HS1, HP1, hide2 (fun j hj => HK1.out j (by omega)), HF0, hide2 ?_, HH, hide2 ?_, hide2 ⟨HR1.out, HNK.out _ (by omega) (by omega), ?_⟩⟩
    · rintro j (e | e | e | e)
      · rw [e]; exact HNK.out _ (by omega) (by omega)
      · cases e
      · cases e
      · cases e
    · intro j e
      refine ⟨HV1.out j e, ?_⟩
      have := (World.ownsRow.lt HH.out j e).1
      rintro (e | e | e | e)
      · omega
      · cases e
      · cases e
      · cases e
    · rintro (e | e | e | e)
      · omega
      · cases e
      · cases e
      · cases e
  case round =>
    clear HS1 HP1 HK1 HF0 HH HV1 HR1 HNK hs1
    obtain ⟨k, K2, u0, u1, u2, hk, rfl, S, P, HK, HF, HSK, H, HV, R⟩ := hrel
    have hsz2 := HF.out.size
    by_cases hkl : k < l.length
    · obtain ⟨g0, cap0, ev, q0⟩ := H.out.at hkl
      have hmem : l.getD k 0 ∈ l := by rw [List.getD_eq_getElem?_getD, List.getElem?_eq_getElem hkl]; exact List.getElem_mem hkl
      have hlv := HLV.out _ hmem
      have HTK : Hid (l.take (k + 1) = l.take k ++ [l.getD k 0]) := hide2 (take_snoc (by rw [List.getD_eq_getElem?_getD, List.getElem?_eq_getElem hkl]; rfl))
      obtain ⟨x, hx⟩ : ∃ x, x = l.getD k 0 := ⟨_, rfl⟩
      rw [← hx] at q0 hlv HTK
      injection ev with e1 e2 e3
      subst e1 e3
      have hkl2 : (k : Int) < (l.length : Int) := by omega
      have hg0 : g0 < wr.heap.size := (World.ownsRow.lt H.out g0 rfl).2
      have HBG := hide2 (sbegin_any P.out hlv (by omega))
      have HLX := hide2 hlv
      clear hmem hx hlv
      go_wp2_with fail
      refine HBG.out.mono ?_
      rintro e w2 ⟨rfl, K3, hR3, hk3, hF3⟩
      have hs3 := hF3.size
      have HP3 := hide2 hR3
      have HK3 : Hid (∀ j, j < wr.heap.size → (K3 j ↔ K2 j)) := hide2 hk3
      have HF3 : Hid (Fr K2 wr w2) := hide2 hF3
      have HEN := hide2 (end_any hR3 HLX.out (by omega))
      clear HBG hR3 hk3 hF3 q0
      go_wp2_with fail
      refine HEN.out.mono ?_
      rintro e w3 ⟨rfl, K4, hR4, hk4, hF4⟩
      have hs4 := hF4.size
      have hS4 : Sg w3 w.heap.size (w.heap.size + 1) u0 u1 u2 (l.take k) ((l.take k).map (A.va 2)) ((l.take k).map (A.va 3)) := (S.out.keep HF3.out HSK.out).keep hF4 (fun j e q => HSK.out j e ((HK3.out j (S.out.ge e).2).1 q))
      have hSB : ∀ j, SgB (w.heap.size + 1) u0 u1 u2 j → ¬ K4 j ∧ j < wr.heap.size := fun j e => ⟨fun q => HSK.out j e ((HK3.out j (S.out.ge e).2).1 ((hk4 j (by have := (S.out.ge e).2; omega)).1 q)), (S.out.ge e).2⟩
      have HAD := hide2 (add_any hS4 (by omega) (by simp; omega) (by simp; omega) (by simp; omega) x (A.va 2 x) (A.va 3 x))
      have hkk : ∀ j, j < wr.heap.size → (K4 j ↔ K2 j) := fun j hj => (hk4 j (by omega)).trans (HK3.out j hj)
      have HF4 : Hid (Fr K2 wr w3) := hide2 (HF3.out.trans hF4 (fun j e => by
        rcases Nat.lt_or_ge j wr.heap.size with q | q
        · exact .inl ((HK3.out j q).1 e)
        · exact .inr q))
      have HP4 := hide2 hR4
      have HKK := hide2 hkk
      have HSB := hide2 hSB
      clear HEN hR4 hk4 hF4 hS4 hSB hkk HP3 HK3 HF3
      go_wp2_with fail
      refine HAD.out.mono ?_
      rintro e w4 ⟨rfl, y0, y1, y2, hS5, hF5, hJ5⟩
      have hs5 := hF5.size
      have HS5 : Hid (Sg w4 w.heap.size (w.heap.size + 1) y0 y1 y2 (l.take (k + 1)) ((l.take (k + 1)).map (A.va 2)) ((l.take (k + 1)).map (A.va 3))) := hide2 (by rw [HTK.out]; simpa using hS5)
      have HF5 := hide2 hF5
      have HJ5 := hide2 hJ5
      clear HAD hS5 hF5 hJ5
      go_wp2
      go_roundw
      case rel =>
        have hnk : ∀ j, K4 j → ¬ SgB (w.heap.size + 1) u0 u1 u2 j := fun j q e => (HSB.out j e).1 q
        refine ⟨k + 1, K4, y0, y1, y2, by omega, by go_num, HS5, hide2 ((HP4.out.keep HF5.out hnk (fun e => by have := (S.out.ge e).1; omega)).up (by omega)), hide2 (fun j hj => (HKK.out j (by omega)).trans (HK.out j hj)), hide2 ?_, hide2 ?_, hide2 ?_, hide2 ?_, hide2 ⟨?_, ?_, ?_⟩⟩
        · refine (HF.out.trans HF4.out (fun j e => ?_)).trans HF5.out (fun j e => .inr ((S.out.ge e).1))
          rcases Nat.lt_or_ge j w.heap.size with q | q
          · exact .inl ((HK.out j q).1 e)
          · exact .inr q
        · intro j e q
          rcases HJ5.out j e with e1 | e1
          · exact (HSB.out j e1).1 q
          · have := HP4.out.kl j q; omega
        · exact (H.out.fr HF4.out (fun j e => (HV.out j e).1)).fr HF5.out (fun j e => (HV.out j e).2)
        · intro j e
          have hj := (World.ownsRow.lt H.out j e).2
          refine ⟨fun q => (HV.out j e).1 ((HKK.out j hj).1 q), fun q => ?_⟩
          rcases HJ5.out j q with e1 | e1
          · exact (HV.out j e).2 e1
          · omega
        · have h1 := R.out.1
          have hl1 : w.heap.size < wr.heap.size := (Array.getElem?_eq_some_iff.1 h1).1
          exact (HF5.out.block _ (by omega) R.out.2.2).trans ((HF4.out.block _ hl1 R.out.2.1).trans h1)
        · intro q
          have hl1 : w.heap.size < wr.heap.size := (Array.getElem?_eq_some_iff.1 R.out.1).1
          exact R.out.2.1 ((HKK.out _ hl1).1 q)
        · intro q
          have hl1 : w.heap.size < wr.heap.size := (Array.getElem?_eq_some_iff.1 R.out.1).1
          rcases HJ5.out _ q with e1 | e1
          · exact R.out.2.2 e1
          · omega
      case measure => simp [intOf]; omega
    · obtain rfl : k = l.length := by omega
      have hk2 : ¬ ((l.length : Int) < (l.length : Int)) := by omega
      obtain ⟨c0, c1, c2⟩ := S.out.cells
      have hgl := S.out.lt
      have hbr := R.out.1
      have r0 : wr.cell? ⟨w.heap.size, 0, none⟩ = some (.slice none 0 0) := by rw [Go.Joins.cell_of_block hbr]; rfl
      have r1 : wr.cell? ⟨w.heap.size, 1, none⟩ = some (.slice none 0 0) := by rw [Go.Joins.cell_of_block hbr]; rfl
      have r2 : wr.cell? ⟨w.heap.size, 2, none⟩ = some (.slice none 0 0) := by rw [Go.Joins.cell_of_block hbr]; rfl
      have fr : ∀ i, wr.frozen? ⟨w.heap.size, i, none⟩ = false := fun i => Go.Joins.unfrozen_of_block hbr i
      have hrl : w.heap.size < wr.heap.size := (Array.getElem?_eq_some_iff.1 hbr).1
      have hne : w.heap.size ≠ w.heap.size + 1 := by omega
      obtain ⟨b0, p0, ev0⟩ := S.out.r0.form
      obtain ⟨b1, p1, ev1⟩ := S.out.r1.form
      obtain ⟨b2, p2, ev2⟩ := S.out.r2.form
      have HALL : Hid (∀ y0 y1 y2 : Value, u0 = y0 → u1 = y1 → u2 = y2 → (((wr.setCell ⟨w.heap.size, 0, none⟩ y0).setCell ⟨w.heap.size, 1, none⟩ y1).setCell ⟨w.heap.size, 2, none⟩ y2).heap[w.heap.size]? = some (.cells #[y0, y1, y2] 136 (0, 0)) ∧ LookR w (((wr.setCell ⟨w.heap.size, 0, none⟩ y0).setCell ⟨w.heap.size, 1, none⟩ y1).setCell ⟨w.heap.size, 2, none⟩ y2) K sb d z (M + 2 + 3 * l.length) A u l (.agg #[y0, y1, y2])) := hide2 (by
        rintro y0 y1 y2 rfl rfl rfl
        have hF2 : Fr (fun j => j = w.heap.size) wr (((wr.setCell ⟨w.heap.size, 0, none⟩ u0).setCell ⟨w.heap.size, 1, none⟩ u1).setCell ⟨w.heap.size, 2, none⟩ u2) :=
          Fr.setCell (p := ⟨w.heap.size, 2, none⟩) (Fr.setCell (p := ⟨w.heap.size, 1, none⟩) (Fr.setCell (p := ⟨w.heap.size, 0, none⟩) (Fr.refl (fun j => j = w.heap.size) wr) (.inl rfl) _) (.inl rfl) _) (.inl rfl) _
        have b1 := Go.Joins.block_setCell (v := u0) (i := 0) R.out.1
        have b2 := Go.Joins.block_setCell (v := u1) (i := 1) b1
        have b3 := Go.Joins.block_setCell (v := u2) (i := 2) b2
        have hnr := R.out.2.2
        refine ⟨by rw [b3]; rfl, u0, u1, u2, rfl, ?_, ?_, ?_, K2, (P.out.keep hF2 (fun j hj e => R.out.2.1 (e ▸ hj)) (fun e => by omega)).up (by omega), HK.out, HF.out.trans hF2 (fun j e => .inr (by omega)), fun j e => HSK.out j (.inr e)⟩
        · have q := S.out.r0
          rw [List.take_length] at q
          exact q.fr hF2 (fun j e z => hnr (.inr (.inl (z ▸ e))))
        · have q := S.out.r1
          rw [List.take_length] at q
          exact q.fr hF2 (fun j e z => hnr (.inr (.inr (.inl (z ▸ e)))))
        · have q := S.out.r2
          rw [List.take_length] at q
          exact q.fr hF2 (fun j e z => hnr (.inr (.inr (.inr (z ▸ e))))))
      have hlen : (l.take l.length).length = l.length := by simp
      have hlen1 : ((l.take l.length).map (A.va 2)).length = l.length := by simp
      have hlen2 : ((l.take l.length).map (A.va 3)).length = l.length := by simp
      rw [hlen] at ev0
      rw [hlen1] at ev1
      rw [hlen2] at ev2
      have HA := HALL.out _ _ _ ev0 ev1 ev2
      have HA1 := hide2 HA.1
      have HA2 := hide2 HA.2
      clear hbr HALL S P HK HF HSK H HV R HA hlen hlen1 hlen2
      subst ev0 ev1 ev2
      go_wp2
      exact bodyPost_ret (v := .agg #[.slice b0 l.length p0, .slice b1 l.length p1, .slice b2 l.length p2]) (results_cell_row (p := 4) (ty := 136) rfl _ _ w.heap.size 136 #[.slice b0 l.length p0, .slice b1 l.length p1, .slice b2 l.length p2] (0, 0) _ rfl HA1.out Tryd.underlying136 rfl (by kernel_rfl)) rfl ⟨_, rfl, HA2.out⟩
end
end Go.Proofs.YtfhcphgjaobnoaaDoor
