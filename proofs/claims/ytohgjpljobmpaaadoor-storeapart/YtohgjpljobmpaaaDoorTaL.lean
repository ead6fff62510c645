/-
  Chain; two rows that are the same.
-/
import Derived.Test.YtohgjpljobmpaaaDoorTaJ
set_option linter.unusedVariables false
set_option linter.unusedSimpArgs false
namespace Go.Proofs.YtohgjpljobmpaaaDoor
open Go.RowKit Go.Maps

/-- What Chain leaves. -/
def ChainR (w w' : World) (K : Nat → Prop) (sb d z M : Nat) (A : Stt) (u : Nat) (l : List Nat) (v : Value) : Prop :=
  Hr w' w.heap.size v l ∧ ∃ K', Rp w' K' sb d z M A u ∧ (∀ j, j < w.heap.size → (K' j ↔ K j)) ∧ Fr K w w' ∧ ∀ j, v.ownBlock = some j → ¬ K' j

section
variable {w : World} {K : Nat → Prop} {sb d z M u : Nat} {A : Stt}
theorem ver_long (h : Rp w K sb d z M A u) {t : ByteArray} {b x : Int} (ht : 64 < t.size) :
    Calls Tryd.prog 11 #[.pointer (some ⟨sb, 0, none⟩), .string t, .int .u64 b, .int .i64 x] w fun e w' => e = .returned (.tuple #[.int .i64 0, .int .i64 111]) ∧ w' = w := by
  obtain ⟨g, m0, m1, m2, T, N, m, F, own, pl, k1, h, r⟩ := h
  have HI := hide2 (isNone_any (w := w) h.st.cells.1)
  have d1 : decide ((64 : Int) < (t.size : Int)) = true := by simp; omega
  have d2 : (64 : Int) < (t.size : Int) := by omega
  clear h r
  go_enter Tryd.func11, Tryd.ntmps11
  go_wp2_with fail
  refine HI.out.mono ?_
  rintro e wa ⟨rfl, qa⟩
  subst qa
  clear HI
  go_wp2
  go_ret2
  exact ⟨rfl, rfl⟩
set_option maxRecDepth 100000 in
set_option maxHeartbeats 4000000 in
theorem next_out (h : Rp w K sb d z M A u) {n : Int} (h1 : -9223372036854775808 ≤ n) (h2 : n ≤ 9223372036854775807) (hn : n < 0 ∨ A.lv 1 n.toNat = false) :
    Calls Tryd.prog 37 #[.pointer (some ⟨sb, 0, none⟩), .int .i64 n] w fun e w' => e = .returned (.tuple #[.int .i64 0, .int .i64 110]) ∧ Below w.heap.size w w' := by
  obtain ⟨g, m0, m1, m2, T, N, m, F, own, pl, k1, h, r⟩ := h
  have HFD := hide2 (versionOf_out h h1 h2 hn)
  clear h r
  go_enter Tryd.func37, Tryd.ntmps37
  go_wp2_with fail
  refine HFD.out.mono ?_
  rintro e w1 ⟨rfl, hb1⟩
  have HB := hide2 hb1
  have hs1 := hb1.size
  clear HFD hb1
  go_wp2
  go_ret2
  exact ⟨rfl, HB.out.alloc hs1 _⟩
set_option maxRecDepth 100000 in
set_option maxHeartbeats 8000000 in
theorem chain_any (h : Rp w K sb d z M A u) {n : Nat} (hn : A.lv 0 n = true) {l : List Nat} (hc : Ch A (A.va 0 n) l) (hll : l.length ≤ 1000000) (hM : M < 3800000000000000000) :
    Calls Tryd.prog 13 #[.pointer (some ⟨sb, 0, none⟩), .int .i64 (n : Int)] w fun e w' => ∃ v, e = .returned v ∧ ChainR w w' K sb d z (M + 2 + l.length) A u l v := by
  obtain ⟨i0, hi0, z0, z1, z2⟩ := info_parts infoH
  have HHD := hide2 (head_any h hn (by omega))
  have hok := h.ok
  have hbd := hok.bd 0 n (by decide) hn
  have hhd := hok.hd n hn
  have hla := h.la 1
  have HOK := hide2 hok
  have HC := hide2 hc
  have hk0 := h.k0
  have hz0 := h.tab.1
  have hkl := h.kl
  have HKL := hide2 hkl
  have HLI := hide2 (hc.live)
  have HND := hide2 (hc.nodup hok)
  clear h hok hc hkl
  go_enter Tryd.func13, Tryd.ntmps13
  go_wp2_with fail
  refine HHD.out.mono ?_
  rintro e w1 ⟨rfl, K1, hR1, hk1, hF1⟩
  have HR1 := hide2 hR1
  have HK1 := hide2 hk1
  have HF1 := hide2 hF1
  have hs1 := hF1.size
  clear HHD hR1 hk1 hF1
  go_wp2
  go_loopw [5, 7] (fun a v wr => ∃ (l1 l2 : List Nat) (x : Int) (K1 : Nat → Prop), l = l1 ++ l2 ∧ a = .int .i64 x ∧ 0 ≤ x ∧ x ≤ 1000000 ∧ Hid (Ch A x l2) ∧ Hid (Hr wr w.heap.size v l1) ∧ Hid (Rp wr K1 sb d z (M + 1 + l1.length) A u) ∧ Hid (∀ j, j < w.heap.size → (K1 j ↔ K j)) ∧ Hid (Fr K w wr) ∧ Hid (∀ j, v.ownBlock = some j → ¬ K1 j)) (fun _ v _ => match v with | .slice _ k _ => l.length + 1 - k | _ => 0)
  case atStart => exact ⟨[], l, A.va 0 n, K1, rfl, rfl, hbd.1, by omega, HC, hide2 ⟨rfl, .inl ⟨rfl, rfl⟩⟩, HR1, HK1, HF1, hide2 (fun j e => by cases e)⟩
  case round =>
    clear HR1 HK1 HF1 hs1
    obtain ⟨l1, l2, x, K2, hl12, rfl, hx0, hx1, C, HR, L, HK, HF, HV⟩ := hrel
    have hsz := HF.out.size
    obtain ⟨ao, cp, ev⟩ := HR.out.form
    subst ev
    have hlen : l.length = l1.length + l2.length := by rw [hl12]; simp
    have HLL := hide2 hl12
    obtain ⟨g, m0, m1, m2, T, N, m, F, own, pl, kc, hS, r⟩ := L.out
    have hct := hS.ct l HND.out HLI.out
    have hmap := hS.st.cells.2.2.2.2.1
    have hml := fun ty => hS.p1.len Tryd.underlying61 ty
    clear hS r hl12
    match l2, C with
    | [], C =>
      have hout : x < 0 ∨ A.lv 1 x.toNat = false := C.out
      have hl1 : l1.length = l.length := by simp at hlen; omega
      have RET : Hid (∀ w', Below wr.heap.size wr w' → ChainR w w' K sb d z (M + 2 + l.length) A u l (.slice ao l1.length cp)) := hide2 (fun w' hb => by
        have e : l = l1 := by rw [HLL.out]; simp
        refine ⟨?_, K2, (L.out.up (by omega)).below hb, HK.out, HF.out.trans (G := fun _ => False) (Fr.below hb) (fun j e => e.elim), HV.out⟩
        rw [e]
        exact hrow_fr HR.out (Fr.below (F := fun _ => False) hb) (fun _ _ => id))
      clear hl1 hlen hct
      by_cases hlt : l1.length < kc
      · have c1 : decide ((l1.length : Int) < (kc : Int)) = true := by simp; omega
        have c2 : (l1.length : Int) < (kc : Int) := by omega
        have HNX := hide2 (next_out L.out (n := x) (by omega) (by omega) hout)
        clear hout
        go_wp2_with fail
        refine HNX.out.mono ?_
        rintro e w3 ⟨rfl, hb3⟩
        have HB3 := hide2 hb3
        clear HNX hb3
        go_wp2
        go_ret
        exact ⟨_, rfl, RET.out _ HB3.out⟩
      · have c1 : decide ((l1.length : Int) < (kc : Int)) = false := by simp; omega
        have c2 : ¬ (l1.length : Int) < (kc : Int) := by omega
        clear hout
        go_wp2
        go_ret
        exact ⟨_, rfl, RET.out _ (Below.refl _ _)⟩
    | y :: l3, C =>
      obtain ⟨hxy, hy, C3⟩ := C.out
      subst hxy
      have hl3 : l1.length + 1 + l3.length = l.length := by simp at hlen; omega
      have c1 : decide ((l1.length : Int) < (kc : Int)) = true := by simp; omega
      have c2 : (l1.length : Int) < (kc : Int) := by omega
      have hnb := HOK.out.n1 1 y hy
      have hbd2 := HOK.out.bd 4 y (by decide) hy
      have hnx := HOK.out.nx y hy
      have HNX := hide2 (next_any L.out hy (by omega))
      have HC3 := hide2 C3
      obtain ⟨x2, hx2⟩ : ∃ q, q = A.va 4 y := ⟨_, rfl⟩
      rw [← hx2] at HNX HC3 hbd2 hnx
      clear C3 hy hx2 hlen
      go_wp2_with fail
      refine HNX.out.mono ?_
      rintro e w3 ⟨rfl, K3, hR3, hk3, hF3⟩
      have hr3 : Hr w3 w.heap.size (.slice ao l1.length cp) l1 := hrow_fr HR.out hF3 (fun j e => HV.out j e)
      have hblk : ∀ j, (Value.slice ao l1.length cp).ownBlock = some j → j < wr.heap.size ∧ w.heap.size ≤ j := fun j e => ⟨(World.ownsRow.lt HR.out j e).2, (World.ownsRow.lt HR.out j e).1⟩
      have HBK := hide2 hblk
      have HR3 : Hid (w3.ownsRow w.heap.size 3 1 (.slice ao l1.length cp) l1.length (l1.map nv)) := hide2 hr3
      have hs3 := hF3.size
      have HP3 := hide2 hR3
      have HK3 := hide2 hk3
      have HF3 := hide2 hF3
      have HNEW := hide2 (hcell_new w3 (.int .i64 (y : Int)) 3)
      clear HNX hR3 hk3 hF3 hr3 hblk
      go_wp2_with (at_builtin; refine Hid.out ?_)
      refine hide2 ?_
      refine wpList_append_own_at _ rfl _ _ 37 rfl w.heap.size 3 i0 (.int .i64 0) 1 8 Tryd.underlying37 hi0 z0 z1 z2 rfl (by decide) (.slice ao l1.length cp) _ _ rfl (World.ownsRow.alloc HR3.out _) ⟨w3.heap.size, 0, none⟩ 1 1 [.int .i64 (y : Int)] rfl rfl HNEW.out (by simp [Value.oneCell']) (by unfold maxLen; omega) (by omega) (by simp; omega) ?_
      intro v' w4 hown4 hgrow4 hat4 hb4
      obtain ⟨gt, capt, ev⟩ := hrow_succ hown4
      have hFg : Fr (fun j => (Value.slice ao l1.length cp).ownBlock = some j) w3 w4 := ((Fr.refl (fun j => (Value.slice ao l1.length cp).ownBlock = some j) w3).alloc (.cells #[.int .i64 (y : Int)] 3)).trans (Fr.grown hgrow4 (fun j e => e)) (fun j e => .inl e)
      have hvK3 : ∀ j, (Value.slice ao l1.length cp).ownBlock = some j → ¬ K3 j := fun j e q => HV.out j e ((HK3.out j (HBK.out j e).1).1 q)
      have hR4 : Rp w4 K3 sb d z (M + 1 + (l1.length + 1)) A u := (HP3.out.up (by omega)).keep hFg (fun j hj e => hvK3 j e hj) (fun e => by
        have := (HBK.out 0 e).2
        have := HF.out.size
        omega)
      have HR4 := hide2 hR4
      have HF4 : Hid (Fr K w w4) := hide2 ((HF.out.trans HF3.out (fun j e => by
        rcases Nat.lt_or_ge j w.heap.size with q | q
        · exact .inl ((HK.out j q).1 e)
        · exact .inr q)).trans hFg (fun j e => .inr (HBK.out j e).2))
      have HH4 : Hid (Hr w4 w.heap.size v' (l1 ++ [y])) := hide2 (by
        unfold Hr
        rw [List.length_append, List.length_singleton, List.map_append]
        exact hown4)
      have HV4 : Hid (∀ j, v'.ownBlock = some j → ¬ K3 j) := hide2 (fun j e q => by
        rcases hb4 with q4 | q4
        · exact hvK3 j (by rw [← q4]; exact e) q
        · rw [q4] at e
          simp at e
          have := HP3.out.kl j q
          omega)
      have HK4 : Hid (∀ j, j < w.heap.size → (K3 j ↔ K j)) := hide2 (fun j hj => (HK3.out j (by omega)).trans (HK.out j hj))
      have HL4 : Hid (l = (l1 ++ [y]) ++ l3) := hide2 (by rw [HLL.out]; simp)
      clear hown4 hgrow4 hat4 hb4 hFg HNEW HR3 HR HP3 HK3 HF3 HBK hvK3 hR4 HV
      subst ev
      go_frame
      go_wp2
      go_roundw
      case rel => exact ⟨l1 ++ [y], l3, x2, K3, HL4.out, rfl, hbd2.1, by omega, HC3, HH4, hide2 (by have q := HR4.out; rw [show l1.length + 1 = (l1 ++ [y]).length by simp] at q; exact q), HK4, HF4, HV4⟩
      case measure => show l.length + 1 - (l1.length + 1) < l.length + 1 - l1.length; omega

set_option maxRecDepth 100000 in
set_option maxHeartbeats 4000000 in
theorem ints_same {ao bo : Option Addr} {c1 c2 : Nat} {l : List Int} {len : Nat} (h1 : Seq 1 ih w ao len c1 l) (h2 : Seq 1 ih w bo len c2 l) :
    Calls Tryd.prog 17 #[.slice ao len c1, .slice bo len c2] w fun e w' => e = .returned (.bool true) ∧ ∃ q, w' = w.drewN q := by
  have hcap := h1.2.1
  have hmax := h1.2.2.1
  have hcap2 := h2.2.1
  have hmax2 := h2.2.2.1
  unfold maxLen at hmax hmax2
  have H1 := hide2 h1
  have H2 := hide2 h2
  clear h1 h2
  go_enter Tryd.func17, Tryd.ntmps17
  go_wp2
  go_loopw [5] (fun i wr => ∃ k q : Nat, k ≤ len ∧ i = .int .i64 (k : Nat) ∧ wr = w.drewN q) (fun i _ => len - (intOf i).toNat)
  case atStart => exact ⟨0, 0, Nat.zero_le _, rfl, rfl⟩
  case round =>
    obtain ⟨k, q, hk, rfl, rfl⟩ := hrel
    by_cases hlt : k < len
    · have d1 : decide ((k : Int) < (len : Int)) = true := by simp; omega
      have d2 : (k : Int) < (len : Int) := by omega
      obtain ⟨b, off, rfl, hbl, hcell⟩ := H1.out.2.2.2 (by omega)
      obtain ⟨b2, off2, rfl, hbl2, hcell2⟩ := H2.out.2.2.2 (by omega)
      obtain ⟨x, hx⟩ := some_at H1.out.1 hlt
      have q1 : (w.drewN q).cell? ⟨b, off + k, none⟩ = some (.int .i64 x) := by
        show w.cell? _ = _
        have := hcell k x hx 0 _ rfl
        simpa using this
      have q2 : (w.drewN q).cell? ⟨b2, off2 + k, none⟩ = some (.int .i64 x) := by
        show w.cell? _ = _
        have := hcell2 k x hx 0 _ rfl
        simpa using this
      clear hcell hcell2 hx
      obtain ⟨W, hW⟩ : ∃ x, x = w.drewN q := ⟨_, rfl⟩
      rw [← hW] at q1 q2 ⊢
      have HW := hide2 hW
      clear hW
      go_wp2
      go_quiet (fail)
      go_wp2
      go_roundw
      case rel => exact ⟨k + 1, q + nq, by omega, by go_num, by rw [HW.out]; simp [World.drewN, Nat.add_assoc]⟩
      case measure => simp [intOf]; omega
    · have d1 : decide ((k : Int) < (len : Int)) = false := by simp; omega
      have d2 : ¬ (k : Int) < (len : Int) := by omega
      go_wp2
      go_ret
      exact ⟨rfl, q, rfl⟩
end
end Go.Proofs.YtohgjpljobmpaaaDoor
