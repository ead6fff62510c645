/-
  VsD: Layer 15: the law lays chains: laid. (Printed by gen_vsd.py.)
-/
import Derived.Test.YtfhcphgjaobnoaaDoorVtC
set_option linter.unusedVariables false
set_option linter.unusedSimpArgs false
namespace Go.Proofs.YtfhcphgjaobnoaaDoor

section
open Go.RowKit Go.Maps

/-- What a chain leaves, the newest first. -/
def wOf (cs : List ChR) (n : Nat) : List (Int × Int) := match cs[n - 1]? with | some c => ld1 c.bs c.es (min c.bs.length 30) | none => []
structure LaidS (w wr : World) (cs : List ChR) (sb d rb : Nat) (v : Value) (K J : Nat → Prop) (M : Nat) (A : Stt) (u : Nat) (st : Int) (L : Nat → List Nat) (W : Nat → List (Int × Int)) (i : Nat) : Prop where
  l : Ld w wr K J sb d rb M A u st
  h : Hr wr w.heap.size v (List.range' 1 i)
  a : ∀ j, v.ownBlock = some j → ¬ (K j ∨ J j)
  n : Nds A i L W
  wd : ∀ n, 1 ≤ n → n ≤ i → W n = wOf cs n
  bM : M ≤ 1000 * i
  bu : u ≤ 92 * i
  bs : 0 ≤ st ∧ st ≤ 100 * i
  bl : A.la 1 ≤ 30 * i
structure InS (w wr : World) (cs : List ChR) (c : ChR) (sb d rb : Nat) (v : Value) (K J : Nat → Prop) (M : Nat) (A : Stt) (u : Nat) (st : Int) (L : Nat → List Nat) (W : Nat → List (Int × Int)) (i k : Nat) : Prop where
  l : Ld w wr K J sb d rb M A u st
  h : Hr wr w.heap.size v (List.range' 1 (i + 1))
  a : ∀ j, v.ownBlock = some j → ¬ (K j ∨ J j)
  n : Nds A (i + 1) L W
  wd : ∀ n, 1 ≤ n → n ≤ i → W n = wOf cs n
  wk : W (i + 1) = ld1 c.bs c.es k
  bM : M ≤ 1000 * i + 10 + 20 * k
  bu : u ≤ 92 * i + 2 + 3 * k
  bs : 0 ≤ st ∧ st ≤ 100 * i + 3 * k
  bl : A.la 1 ≤ 30 * i + k
/-- What calls of both stores leave. -/
def Lk (wr w1 : World) (K J K1 J1 : Nat → Prop) : Prop := (∀ j, j < wr.heap.size → ((K1 j ∨ J1 j) ↔ (K j ∨ J j))) ∧ Fr (fun j => K j ∨ J j) wr w1
section
variable {w wr w1 w2 : World} {cs : List ChR} {c : ChR} {sb d rb : Nat} {v : Value} {K J K1 J1 K2 J2 : Nat → Prop} {M M' : Nat} {A : Stt} {u u' : Nat} {st st' : Int} {L : Nat → List Nat} {W : Nat → List (Int × Int)} {i k : Nat}
theorem lead_va0 (A : Stt) (n : Nat) (t : ByteArray) (b e x : Int) : (A.lead n t b e x).va 0 n = ((A.la 1 + 1 : Nat) : Int) := by
  show up2 (A.front n t b x).va 3 (A.la 1 + 1) e 0 n = _
  rw [up2_other _ _ (fun q => by omega), front_va0, if_pos rfl]
theorem Lk.trans (h1 : Lk wr w1 K J K1 J1) (h2 : Lk w1 w2 K1 J1 K2 J2) : Lk wr w2 K J K2 J2 := by
  have hs := h1.2.size
  refine ⟨fun j hj => (h2.1 j (by omega)).trans (h1.1 j hj), h1.2.trans h2.2 (fun j e => ?_)⟩
  rcases Nat.lt_or_ge j wr.heap.size with q | q
  · exact .inl ((h1.1 j q).1 e)
  · exact .inr q
theorem InS.skip (S : InS w wr cs c sb d rb v K J M A u st L W i k) (hm : mbg (c.bs.getD k 0) = false) : InS w wr cs c sb d rb v K J M A u st L W i (k + 1) := by
  have h1 := S.bM
  have h2 := S.bu
  have h3 := S.bs
  have h4 := S.bl
  refine ⟨S.l, S.h, S.a, S.n, S.wd, ?_, by omega, by omega, ⟨by omega, by omega⟩, by omega⟩
  rw [S.wk]
  unfold ld1
  rw [hm]
  simp only [Bool.false_eq_true, if_false]
  cases k <;> rfl
theorem InS.lead (S : InS w wr cs c sb d rb v K J M A u st L W i k) (hm : mbg (c.bs.getD k 0) = true) {t : ByteArray} {e : Int} (he : e = if k < c.es.length ∧ ptO (c.es.getD k 0) = true then c.es.getD k 0 else 1099511627776) (hk : Lk wr w1 K J K1 J1)
    (l : Ld w w1 K1 J1 sb d rb M' (A.lead (i + 1) t (c.bs.getD k 0) e (A.va 0 (i + 1))) u' st') (hM : M' ≤ M + 20) (hu : u' = u + 3) (hst : st ≤ st' ∧ st' ≤ st + 3) : InS w w1 cs c sb d rb v K1 J1 M' (A.lead (i + 1) t (c.bs.getD k 0) e (A.va 0 (i + 1))) u' st' (up1 L (i + 1) ((A.la 1 + 1) :: L (i + 1))) (up1 W (i + 1) ((c.bs.getD k 0, e) :: W (i + 1))) i (k + 1) := by
  have h1 := S.bM
  have h2 := S.bu
  have h3 := S.bs
  have h4 := S.bl
  refine ⟨l, S.h.fr hk.2 S.a, fun j ej q => S.a j ej ((hk.1 j (World.ownsRow.lt S.h j ej).2).1 q), S.n.lead S.l.p.ok (by omega) (by omega), fun n q1 q2 => by rw [up1_other _ _ (by omega)]; exact S.wd n q1 q2, ?_, by omega, by omega, ⟨by omega, by omega⟩, ?_⟩
  · rw [up1_same, S.wk, he]
    show _ = ld1 c.bs c.es (k + 1)
    rw [ld1, if_pos hm]
  · show up1 A.la 1 (A.la 1 + 1) 1 ≤ _
    rw [up1_same]; omega
theorem ld_new (Lv0 : Lv w w1 K sb d 4000 0 Stt.zero 0) : Ld w (w1.alloc (.cells #[.slice none 0 0, .slice none 0 0, .slice none 0 0, .int .i64 4000, .int .i64 0] 71)) K (fun j => j = w1.heap.size) sb d w1.heap.size 0 Stt.zero 0 0 := by
  have h0 := Lv0.rp.tab.1
  have hb : Below w1.heap.size w1 (w1.alloc (.cells #[.slice none 0 0, .slice none 0 0, .slice none 0 0, .int .i64 4000, .int .i64 0] 71)) := (Below.refl _ _).alloc (Nat.le_refl _) _
  have hsz := Lv0.bl.size
  refine ⟨Lv0.rp.below hb, ⟨.slice none 0 0, .slice none 0 0, .slice none 0 0, ⟨heap_alloc_new w1 _, Fw.start, Fw.start, Fw.start, Stt.zero_ok, fun c => by simp [Stt.zero], fun j e => ?_, fun j e => ?_, fun e => ?_⟩⟩, fun j hj e => ?_, fun j e => ?_, ?_⟩
  · rcases e with e | e | e | e
    · exact e
    · cases e
    · cases e
    · cases e
  · subst e
    simp
  · omega
  · have := Lv0.rp.kl j hj
    omega
  · rcases e with e | e
    · exact Lv0.kb j e
    · omega
  · exact Lv0.bl.trans ⟨hb.os, hb.tape, hb.output, hb.size, fun j hj => hb.block j (by omega)⟩
theorem range_snoc (i : Nat) : List.range' 1 (i + 1) = List.range' 1 i ++ [i + 1] := by
  rw [List.range'_concat]; simp; omega

def LaidX (w wr : World) (cs : List ChR) (sb d rb : Nat) (v : Value) (i : Nat) : Prop := ∃ K J M A u st L W, LaidS w wr cs sb d rb v K J M A u st L W i
theorem results_tmp5 {fn : Func} {t u v z y : Tmp} (h : fn.results = #[.tmp t, .tmp u, .tmp v, .tmp z, .tmp y]) (tmps : Array Value) (P : Program) (w : World) :
    (results fn tmps).run P w = .ok (.tuple #[tmps.getD t undef, tmps.getD u undef, tmps.getD v undef, tmps.getD z undef, tmps.getD y undef]) w := by
  simp [results, h]
def TV : ByteArray := ⟨#[118]⟩
set_option maxRecDepth 100000 in
set_option maxHeartbeats 8000000 in
theorem laid_any {ao : Option Addr} {len cap : Nat} (hT : Tab w) (hs : Seq 2 ChR.cells w ao len cap cs) (hc : ∀ c ∈ cs, c.ok w) :
    Calls Tryd.prog 14 #[.slice ao len cap] w fun e w' => ∃ sb d rb v, e = .returned (.tuple #[.pointer (some ⟨sb, 0, none⟩), .pointer (some ⟨d, 0, none⟩), .pointer (some ⟨rb, 0, none⟩), v, .bool true]) ∧ LaidX w w' cs sb d rb v (min len 20) := by
  obtain ⟨i0, hi0, z0, z1, z2⟩ := info_parts infoH
  have HM := hide2 (New_any 4000 w (by decide) (by decide))
  have HT := hide2 hT
  have hz0 := hT.1
  have hcap := hs.2.1
  have hmax := hs.2.2.1
  unfold maxLen at hmax
  have HS := hide2 hs
  have HC := hide2 hc
  clear hT hs hc
  go_enter Tryd.func14, Tryd.ntmps14
  go_wp2_with fail
  refine HM.out.mono ?_
  rintro e w1 ⟨rfl, ⟨F, hA⟩, hb1⟩
  have HN := hide2 (lv_new (g := 0) (z := 4000) HT.out hb1 hA)
  clear HM hA hb1
  go_wp2_with fail
  refine HN.out.mono ?_
  rintro e w2 ⟨rfl, K2, L2⟩
  obtain ⟨sb, hsb⟩ : ∃ x, x = w1.heap.size := ⟨_, rfl⟩
  obtain ⟨d, hd⟩ : ∃ x, x = w.heap.size + 1 := ⟨_, rfl⟩
  rw [← hsb, ← hd] at L2
  rw [← hsb, ← hd]
  have hL0 := ld_new L2
  obtain ⟨w3, hw3⟩ : ∃ q, q = w2.alloc (.cells #[.slice none 0 0, .slice none 0 0, .slice none 0 0, .int .i64 4000, .int .i64 0] 71) := ⟨_, rfl⟩
  rw [← hw3] at hL0
  obtain ⟨rb, hrb⟩ : ∃ x, x = w2.heap.size := ⟨_, rfl⟩
  rw [← hrb] at hL0
  have HL0 : Hid (LaidS w w3 cs sb d rb (.slice none 0 0) K2 (fun j => j = rb) 0 Stt.zero 0 0 (fun _ => []) (fun _ => []) 0) := hide2 ⟨hL0, ⟨rfl, .inl ⟨rfl, rfl⟩⟩, (fun j e => by cases e), Nds.zero, fun n q1 q2 => by omega, by omega, by omega, ⟨by omega, by omega⟩, by show (0 : Nat) ≤ _; omega⟩
  clear HN hL0 L2 hsb hd HT
  go_wp2
  rw [← hw3, ← hrb]
  clear hw3 hrb
  go_loopw [13, 12] (fun a v wr => ∃ (i : Nat) (K J : Nat → Prop) (M : Nat) (A : Stt) (u : Nat) (st : Int) (L : Nat → List Nat) (W : Nat → List (Int × Int)), i ≤ len ∧ i ≤ 20 ∧ a = .int .i64 i ∧ Hid (LaidS w wr cs sb d rb v K J M A u st L W i)) (fun a _ _ => 20 - (intOf a).toNat)
  case atStart => exact ⟨0, K2, (fun j => j = rb), 0, Stt.zero, 0, 0, (fun _ => []), (fun _ => []), by omega, by omega, rfl, HL0⟩
  case round =>
    clear HL0
    obtain ⟨i, K, J, M, A, u, st, L, W, hi1, hi2, rfl, S⟩ := hrel
    obtain ⟨va, vcp, ev⟩ := S.out.h.form
    rw [List.length_range'] at ev
    subst ev
    by_cases hend : i < len ∧ i < 20
    · have hil : (i : Int) < (len : Int) := by omega
      have hi20 : (i : Int) < 20 := by omega
      obtain ⟨bM, bu, bs, bl⟩ := And.intro S.out.bM (And.intro S.out.bu (And.intro S.out.bs S.out.bl))
      have hla0 := S.out.n.la
      have HNP := hide2 (node_any S.out.l.p (by omega) (by omega) (by omega))
      rw [hla0] at HNP
      go_wp2_with fail
      refine HNP.out.mono ?_
      rintro e x1 ⟨rfl, a1⟩
      have hNR := rNode_any (S.out.l.mid a1) ⟨by omega, by omega⟩ (by omega)
      have HNR := hide2 hNR
      have A1 := hide2 a1
      clear HNP a1 hNR
      go_wp2_with fail
      refine HNR.out.mono ?_
      rintro e x2 ⟨rfl, a2⟩
      obtain ⟨K3, J3, l3, k3, f3⟩ := S.out.l.fin A1.out a2 (by omega)
      have hs3 := f3.size
      have HSZ : Hid (w.heap.size ≤ wr.heap.size) := hide2 S.out.l.bl.size
      have hr3 : Hr x2 w.heap.size (.slice va i vcp) (List.range' 1 i) := S.out.h.fr f3 S.out.a
      have HO3 : Hid (x2.ownsRow w.heap.size 3 1 (.slice va i vcp) (List.range' 1 i).length ((List.range' 1 i).map nv)) := hide2 hr3
      have hlr : (List.range' 1 i).length = i := List.length_range'
      rw [hlr] at HO3
      have HNEW := hide2 (hcell_new x2 (.int .i64 ((i + 1 : Nat) : Int)) 3)
      have HA3 : Hid (∀ j, (Value.slice va i vcp).ownBlock = some j → ¬ (K3 j ∨ J3 j)) := hide2 (fun j ej q => S.out.a j ej ((k3 j (World.ownsRow.lt S.out.h j ej).2).1 q))
      have HL3 := hide2 l3
      have HN3 := hide2 (S.out.n.node S.out.l.p.ok)
      have HSB : Hid (∀ j, (Value.slice va i vcp).ownBlock = some j → w.heap.size ≤ j) := hide2 (fun j ej => (World.ownsRow.lt S.out.h j ej).1)
      clear HNR A1 a2 l3 k3 f3 hr3 hlr
      go_wp2_with (at_builtin; refine Hid.out ?_)
      refine hide2 ?_
      refine wpList_append_own_at _ rfl _ _ 29 rfl w.heap.size 3 i0 (.int .i64 0) 1 8 Tryd.underlying29 hi0 z0 z1 z2 rfl (by decide) (.slice va i vcp) _ _ rfl (World.ownsRow.alloc HO3.out _) ⟨x2.heap.size, 0, none⟩ 1 1 [.int .i64 ((i + 1 : Nat) : Int)] rfl rfl HNEW.out (by simp [Value.oneCell']) (by unfold maxLen; omega) (by omega) (by have := HSZ.out; simp; omega) ?_
      intro v' x4 hown4 hgrow4 hat4 hb4
      obtain ⟨gt, capt, ev⟩ := hrow_succ hown4
      have hFg : Fr (fun j => (Value.slice va i vcp).ownBlock = some j) x2 x4 := ((Fr.refl (fun j => (Value.slice va i vcp).ownBlock = some j) x2).alloc (.cells #[.int .i64 ((i + 1 : Nat) : Int)] 3)).trans (Fr.grown hgrow4 (fun j e => e)) (fun j e => .inl e)
      have hl4 : Ld w x4 K3 J3 sb d rb (M + 3) A.node (u + 2) st := HL3.out.keep hFg (fun j hj e => HA3.out j e hj) (fun j e => HSB.out j e) hz0
      obtain ⟨b, off, c, eao, hbl, hcc, hc0, hc1⟩ := seq_c (HS.out.keep hl4.bl) hend.1
      have hck := HC.out c (List.mem_of_getElem? hcc)
      have HI0 : Hid (InS w x4 cs c sb d rb v' K3 J3 (M + 3) A.node (u + 2) st (up1 L (i + 1) []) (up1 W (i + 1) []) i 0) := hide2 (by
        refine ⟨hl4, ?_, fun j ej q => ?_, HN3.out, fun n q1 q2 => by rw [up1_other _ _ (by omega)]; exact S.out.wd n q1 q2, by rw [up1_same]; rfl, by omega, by omega, ⟨by omega, by omega⟩, ?_⟩
        · unfold Hr
          rw [range_snoc, List.length_append, List.length_range', List.length_singleton, List.map_append]
          exact hown4
        · rcases hb4 with q4 | q4
          · exact HA3.out j (by rw [← q4]; exact ej) q
          · rw [q4] at ej
            simp at ej
            have := HL3.out.kl q
            omega
        · show up1 A.la 0 (A.la 0 + 1) 1 ≤ _
          rw [up1_other _ _ (by omega)]; omega)
      have HCC := hide2 hcc
      have HCK := hide2 hck
      have HWC : Hid (wOf cs (i + 1) = ld1 c.bs c.es (min c.bs.length 30)) := hide2 (by unfold wOf; rw [show i + 1 - 1 = i by omega, hcc])
      have HS0 := S
      clear hown4 hgrow4 hat4 hb4 hFg hl4 HNEW HO3 HA3 HSB HL3 HN3 hcc hck hs3 HSZ hc0 hc1 hbl S bM bu bs bl hla0
      subst ev
      subst eao
      go_frame
      go_wp2
      go_loopw [17, 16] (fun a q wr => ∃ (k : Nat) (K J : Nat → Prop) (M : Nat) (A : Stt) (u : Nat) (st : Int) (L : Nat → List Nat) (W : Nat → List (Int × Int)), k ≤ c.lb ∧ k ≤ 30 ∧ a = .int .i64 k ∧ q = .int .i64 (A.va 0 (i + 1)) ∧ Hid (InS w wr cs c sb d rb (.slice (some ⟨gt, 0, none⟩) (i + 1) capt) K J M A u st L W i k)) (fun a _ _ => 30 - (intOf a).toNat)
      case atStart =>
        refine ⟨0, K3, J3, M + 3, A.node, u + 2, st, up1 L (i + 1) [], up1 W (i + 1) [], by omega, by omega, rfl, ?_, HI0⟩
        have e0 : A.node.va 0 (i + 1) = 0 := by
          show up2 (up2 A.va 0 (A.la 0 + 1) 0) 1 (A.la 0 + 1) 0 0 (i + 1) = _
          rw [up2_other _ _ (fun e => by omega), HS0.out.n.la, up2_same]
        rw [e0]
      case round =>
        clear HI0 HS0
        obtain ⟨k, K4, J4, M4, A4, u4, st4, L4, W4, hk1, hk2, rfl, rfl, S⟩ := hrel
        obtain ⟨b', off', c', eao, hbl, hcc, hc0, hc1⟩ := seq_c (HS.out.keep S.out.l.bl) hend.1
        injection eao with eao
        injection eao with ea1 ea2 ea3
        subst ea1 ea2
        rw [HCC.out] at hcc
        injection hcc with hcc
        subst hcc
        have hck := HCK.out.keep S.out.l.bl
        obtain ⟨bM, bu, bs, bl⟩ := And.intro S.out.bM (And.intro S.out.bu (And.intro S.out.bs S.out.bl))
        have hmax1 := hck.b.2.2.1
        have hmax2 := hck.e.2.2.1
        have hcp1 := hck.b.2.1
        have hcp2 := hck.e.2.1
        unfold maxLen at hmax1 hmax2
        by_cases hend2 : k < c.lb ∧ k < 30
        · have hkl : (k : Int) < (c.lb : Int) := by omega
          have hk30 : (k : Int) < 30 := by omega
          obtain ⟨b2, off2, eb, hb2l, hbc, hbm⟩ := seq_u hck.b hend2.1
          have hbU := hck.b0 _ hbm
          have hok := S.out.l.p.ok
          have hfr := S.out.n.fr (i + 1) (by omega) (by omega)
          have hbo : c.bo = some ⟨b2, off2, none⟩ := eb
          rw [hbo] at hc0
          obtain ⟨bv, hbv⟩ : ∃ x, x = c.bs.getD k 0 := ⟨_, rfl⟩
          rw [← hbv] at hbc hbU
          obtain ⟨x, hx⟩ : ∃ x, x = A4.va 0 (i + 1) := ⟨_, rfl⟩
          rw [← hx] at hfr
          rw [← hx]
          have HX := hide2 hx
          have HBV := hide2 hbv
          have HFR := hide2 hfr
          have HOK := hide2 hok
          have HCK2 := hide2 hck
          clear hck hfr hok hx hbv hbm
          cases hmb : mbg bv with
          | false =>
            have HP := hide2 (Version_form (t := TV) S.out.l.p (by decide) bv x hbU.1 hmb)
            have HR := hide2 (rVersion_form (t := TV) (x := x) S.out.l.r hbU (by decide) hmb)
            have HSK : Hid (InS w wr cs c sb d rb (.slice (some ⟨gt, 0, none⟩) (i + 1) capt) K4 J4 M4 A4 u4 st4 L4 W4 i (k + 1)) := hide2 (S.out.skip (by rw [← HBV.out]; exact hmb))
            clear S bM bu bs bl hmb
            go_wp2_with fail
            refine HP.out.mono ?_
            rintro e y1 ⟨rfl, q⟩
            subst q
            clear HP
            go_wp2_with fail
            refine HR.out.mono ?_
            rintro e y2 ⟨rfl, q⟩
            subst q
            clear HR
            go_wp2
            go_roundw
            case rel => exact ⟨k + 1, K4, J4, M4, A4, u4, st4, L4, W4, by omega, by omega, by go_num, by rw [← HX.out], HSK⟩
            case measure => simp [intOf]; omega
          | true =>
            have HP := hide2 (ver_any (t := TV) S.out.l.p HFR.out (by decide) hbU hmb (by omega) (by omega) (by omega))
            go_wp2_with fail
            refine HP.out.mono ?_
            rintro e y1 ⟨rfl, a1⟩
            have HR := hide2 (lr_ver (t := TV) (S.out.l.mid a1) HOK.out HFR.out (by decide) hbU hmb ⟨by omega, by omega⟩ (by omega))
            have HA1 := hide2 a1
            have a1s : wr.heap.size ≤ y1.heap.size := by obtain ⟨_, _, _, f⟩ := a1; exact f.size
            have cy : y1.cell? ⟨b, off + i * 2, none⟩ = some (.slice (some ⟨b2, off2, none⟩) c.lb c.cb) ∧ y1.cell? ⟨b2, off2 + k, none⟩ = some (.int .u64 bv) := by
              obtain ⟨_, _, _, f⟩ := a1
              have hkb : ∀ j, j < w.heap.size → ¬ K4 j := fun j hj q => by have := S.out.l.kb j (.inl q); omega
              have hb9 : b < w.heap.size := by
                obtain ⟨_, _, e9, h9, _⟩ := HS.out.2.2.2 (by omega); injection e9 with e9; injection e9 with e9; omega
              have hb8 : b2 < w.heap.size := by
                obtain ⟨_, _, e9, h9, _⟩ := HCK.out.b.2.2.2 (by omega); rw [hbo] at e9; injection e9 with e9; injection e9 with e9; omega
              exact ⟨(f.cell (p := ⟨b, off + i * 2, none⟩) hbl (hkb b hb9)).trans hc0, (f.cell (p := ⟨b2, off2 + k, none⟩) hb2l (hkb b2 hb8)).trans hbc⟩
            obtain ⟨cy0, cy1⟩ := cy
            have hbl' : b < y1.heap.size := by omega
            have hb2l' : b2 < y1.heap.size := by omega
            clear HP a1
            go_wp2_with fail
            refine HR.out.mono ?_
            rintro e y2 ⟨rfl, a2⟩
            obtain ⟨K5, J5, l5, k5, f5⟩ := S.out.l.fin HA1.out a2 (by omega)
            have HK5 : Hid (Lk wr y2 K4 J4 K5 J5) := hide2 ⟨k5, f5⟩
            obtain ⟨b9, off9, c9, eao9, hbl9, hcc9, hc09, hc19⟩ := seq_c (HS.out.keep l5.bl) hend.1
            injection eao9 with eao9
            injection eao9 with ea1 ea2 ea3
            subst ea1 ea2
            rw [HCC.out] at hcc9
            injection hcc9 with hcc9
            subst hcc9
            have hck9 := HCK.out.keep l5.bl
            have HL5 := hide2 l5
            have HOK5 := hide2 l5.p.ok
            have hv5 : (A4.ver TV bv x).lv 1 (A4.la 1 + 1) = true := by rw [ver_lv1, if_pos rfl]
            clear HR HA1 a2 l5 k5 f5 cy0 cy1 hc0 hc1 hbl hbl' hb2l hb2l' hbc a1s
            by_cases hke : k < c.le
            · have hke2 : (k : Int) < (c.le : Int) := by omega
              obtain ⟨b3, off3, eb3, hb3l, hbc3, hbm3⟩ := seq_u hck9.e hke
              rw [eb3] at hc19
              have heU := hck9.e0 _ hbm3
              obtain ⟨ev, hev⟩ : ∃ x, x = c.es.getD k 0 := ⟨_, rfl⟩
              rw [← hev] at hbc3 heU
              have HEV := hide2 hev
              have HEL := hide2 hck9.e.1
              have hb38 : b3 < w.heap.size := by
                obtain ⟨_, _, e9, h9, _⟩ := HCK.out.e.2.2.2 (by omega); rw [eb3] at e9; injection e9 with e9; injection e9 with e9; omega
              have hb39 : b < w.heap.size := by
                obtain ⟨_, _, e9, h9, _⟩ := HS.out.2.2.2 (by omega); injection e9 with e9; injection e9 with e9; omega
              clear hck9 hev hbm3
              cases hpo : ptO ev with
              | true =>
                have HP := hide2 (lp_end HL5.out.p hv5 heU hpo (by omega))
                go_wp2_with fail
                refine HP.out.mono ?_
                rintro e y3 ⟨rfl, a3⟩
                have HR := hide2 (lr_end (HL5.out.mid a3) hv5 heU hpo ⟨by omega, by omega⟩)
                have HA3 := hide2 a3
                have cy : y3.cell? ⟨b, off + i * 2 + 1, none⟩ = some (.slice (some ⟨b3, off3, none⟩) c.le c.ce) ∧ y3.cell? ⟨b3, off3 + k, none⟩ = some (.int .u64 ev) ∧ y2.heap.size ≤ y3.heap.size := by
                  obtain ⟨_, _, _, f⟩ := a3
                  have hkb : ∀ j, j < w.heap.size → ¬ K5 j := fun j hj q => by have := HL5.out.kb j (.inl q); omega
                  exact ⟨(f.cell (p := ⟨b, off + i * 2 + 1, none⟩) hbl9 (hkb b hb39)).trans hc19, (f.cell (p := ⟨b3, off3 + k, none⟩) hb3l (hkb b3 hb38)).trans hbc3, f.size⟩
                obtain ⟨cy0, cy1, cy2⟩ := cy
                have hbl' : b < y3.heap.size := by omega
                have hb3l' : b3 < y3.heap.size := by omega
                clear HP a3 hc09 hc19 hbc3
                go_wp2_with fail
                refine HR.out.mono ?_
                rintro e y4 ⟨rfl, a4⟩
                obtain ⟨K6, J6, l6, k6, f6⟩ := HL5.out.fin HA3.out a4 (by omega)
                have HK6 : Hid (Lk wr y4 K4 J4 K6 J6) := hide2 (HK5.out.trans ⟨k6, f6⟩)
                have HL6 := hide2 l6
                clear HR HA3 a4 l6 k6 f6 HL5 HK5 cy0 cy1
                have HEE : Hid (ev = if k < c.es.length ∧ ptO (c.es.getD k 0) = true then c.es.getD k 0 else 1099511627776) := hide2 (by rw [← HEV.out, if_pos ⟨by rw [HEL.out]; exact hke, hpo⟩])
                have hl6 := HL6.out
                have HL7 := hide2 hl6
                have HPP := hide2 (lp_push HL7.out.p HOK.out HFR.out (by omega))
                clear hl6 HL6
                go_wp2_with fail
                refine HPP.out.mono ?_
                rintro e y5 ⟨rfl, a5⟩
                have HRR := hide2 (lr_push (HL7.out.mid a5) HOK.out HFR.out ⟨by omega, by omega⟩)
                have HA5 := hide2 a5
                clear HPP a5
                go_wp2_with fail
                refine HRR.out.mono ?_
                rintro e y6 ⟨rfl, a6⟩
                obtain ⟨K7, J7, l7, k7, f7⟩ := HL7.out.fin HA5.out a6 (by omega)
                have HK7 : Hid (Lk wr y6 K4 J4 K7 J7) := hide2 (HK6.out.trans ⟨k7, f7⟩)
                have l8 := l7
                rw [HX.out, HBV.out] at l8
                have HS8 := hide2 (S.out.lead (by rw [← HBV.out]; exact hmb) HEE.out HK7.out l8 (by omega) (by omega) ⟨by omega, by omega⟩)
                clear HRR HA5 a6 l7 k7 f7 l8 HL7 HK6
                go_wp2
                go_roundw
                case rel => exact ⟨k + 1, K7, J7, _, _, _, _, _, _, by omega, by omega, by go_num, (by rw [lead_va0]; rfl), HS8⟩
                case measure => simp [intOf]; omega
              | false =>
                have HP := hide2 (SetEnd_form HL5.out.p hv5 ev heU.1 hpo)
                go_wp2_with fail
                refine HP.out.mono ?_
                rintro e y3 ⟨rfl, hb3⟩
                have L6 := HL5.out.below hb3
                have hlv : lvI (A4.ver TV bv x) 1 ((A4.la 1 + 1 : Nat) : Int) = true := by rw [lvI_cast]; exact hv5
                have HR := hide2 (rSetEnd_form L6.r heU hlv hpo)
                have HK6 : Hid (Lk wr y3 K4 J4 K5 J5) := hide2 (HK5.out.trans ⟨fun _ _ => Iff.rfl, Fr.below hb3⟩)
                have cy0 : y3.cell? ⟨b, off + i * 2 + 1, none⟩ = some (.slice (some ⟨b3, off3, none⟩) c.le c.ce) := (hb3.cell (p := ⟨b, off + i * 2 + 1, none⟩) hbl9).trans hc19
                have cy1 : y3.cell? ⟨b3, off3 + k, none⟩ = some (.int .u64 ev) := (hb3.cell (p := ⟨b3, off3 + k, none⟩) hb3l).trans hbc3
                have cy2 := hb3.size
                have hbl' : b < y3.heap.size := by omega
                have hb3l' : b3 < y3.heap.size := by omega
                have HL6 := hide2 L6
                clear HP hb3 L6 hc09 hc19 hbc3 HL5 HK5
                go_wp2_with fail
                refine HR.out.mono ?_
                rintro e y4 ⟨rfl, q⟩
                subst q
                clear HR cy0 cy1
                have HEE : Hid ((1099511627776 : Int) = if k < c.es.length ∧ ptO (c.es.getD k 0) = true then c.es.getD k 0 else 1099511627776) := hide2 (by rw [if_neg (fun q => by rw [← HEV.out, hpo] at q; cases q.2)])
                have hl6 := HL6.out
                rw [ver_never] at hl6
                have HL7 := hide2 hl6
                have HPP := hide2 (lp_push HL7.out.p HOK.out HFR.out (by omega))
                clear hl6 HL6
                go_wp2_with fail
                refine HPP.out.mono ?_
                rintro e y5 ⟨rfl, a5⟩
                have HRR := hide2 (lr_push (HL7.out.mid a5) HOK.out HFR.out ⟨by omega, by omega⟩)
                have HA5 := hide2 a5
                clear HPP a5
                go_wp2_with fail
                refine HRR.out.mono ?_
                rintro e y6 ⟨rfl, a6⟩
                obtain ⟨K7, J7, l7, k7, f7⟩ := HL7.out.fin HA5.out a6 (by omega)
                have HK7 : Hid (Lk wr y6 K4 J4 K7 J7) := hide2 (HK6.out.trans ⟨k7, f7⟩)
                have l8 := l7
                rw [HX.out, HBV.out] at l8
                have HS8 := hide2 (S.out.lead (by rw [← HBV.out]; exact hmb) HEE.out HK7.out l8 (by omega) (by omega) ⟨by omega, by omega⟩)
                clear HRR HA5 a6 l7 k7 f7 l8 HL7 HK6
                go_wp2
                go_roundw
                case rel => exact ⟨k + 1, K7, J7, _, _, _, _, _, _, by omega, by omega, by go_num, (by rw [lead_va0]; rfl), HS8⟩
                case measure => simp [intOf]; omega
            · have hke2 : ¬ (k : Int) < (c.le : Int) := by omega
              have HEE : Hid ((1099511627776 : Int) = if k < c.es.length ∧ ptO (c.es.getD k 0) = true then c.es.getD k 0 else 1099511627776) := hide2 (by rw [if_neg (fun q => by rw [hck9.e.1] at q; omega)])
              have HL6 := hide2 HL5.out
              have HK6 := hide2 HK5.out
              clear HL5 HK5 hck9 hc09
              have hl6 := HL6.out
              rw [ver_never] at hl6
              have HL7 := hide2 hl6
              have HPP := hide2 (lp_push HL7.out.p HOK.out HFR.out (by omega))
              clear hl6 HL6
              go_wp2_with fail
              refine HPP.out.mono ?_
              rintro e y5 ⟨rfl, a5⟩
              have HRR := hide2 (lr_push (HL7.out.mid a5) HOK.out HFR.out ⟨by omega, by omega⟩)
              have HA5 := hide2 a5
              clear HPP a5
              go_wp2_with fail
              refine HRR.out.mono ?_
              rintro e y6 ⟨rfl, a6⟩
              obtain ⟨K7, J7, l7, k7, f7⟩ := HL7.out.fin HA5.out a6 (by omega)
              have HK7 : Hid (Lk wr y6 K4 J4 K7 J7) := hide2 (HK6.out.trans ⟨k7, f7⟩)
              have l8 := l7
              rw [HX.out, HBV.out] at l8
              have HS8 := hide2 (S.out.lead (by rw [← HBV.out]; exact hmb) HEE.out HK7.out l8 (by omega) (by omega) ⟨by omega, by omega⟩)
              clear HRR HA5 a6 l7 k7 f7 l8 HL7 HK6
              go_wp2
              go_roundw
              case rel => exact ⟨k + 1, K7, J7, _, _, _, _, _, _, by omega, by omega, by go_num, (by rw [lead_va0]; rfl), HS8⟩
              case measure => simp [intOf]; omega
        · have HFIN : Hid (LaidS w wr cs sb d rb (.slice (some ⟨gt, 0, none⟩) (i + 1) capt) K4 J4 M4 A4 u4 st4 L4 W4 (i + 1)) := hide2 (by
            have hkk : k = min c.bs.length 30 := by rw [hck.b.1]; omega
            refine ⟨S.out.l, S.out.h, S.out.a, S.out.n, fun n q1 q2 => ?_, by omega, by omega, ⟨by omega, by omega⟩, by omega⟩
            by_cases en : n = i + 1
            · rw [en, S.out.wk, HWC.out, hkk]
            · exact S.out.wd n q1 (by omega))
          clear S hck bM bu bs bl
          by_cases hlt : k < c.lb
          · have hkl : (k : Int) < (c.lb : Int) := by omega
            have hk30 : ¬ (k : Int) < 30 := by omega
            go_wp2
            go_roundw
            case rel => exact ⟨i + 1, K4, J4, M4, A4, u4, st4, L4, W4, by omega, by omega, by go_num, HFIN⟩
            case measure => simp [intOf]; omega
          · have hkl : ¬ (k : Int) < (c.lb : Int) := by omega
            go_wp2
            go_roundw
            case rel => exact ⟨i + 1, K4, J4, M4, A4, u4, st4, L4, W4, by omega, by omega, by go_num, HFIN⟩
            case measure => simp [intOf]; omega
    · have hmin : min len 20 = i := by omega
      have HFIN : Hid (LaidS w wr cs sb d rb (.slice va i vcp) K J M A u st L W i) := hide2 S.out
      clear S
      by_cases hlt : i < len
      · have hil : (i : Int) < (len : Int) := by omega
        have hi20 : ¬ (i : Int) < 20 := by omega
        go_wp2
        (try simp only [Exit.inBlock, Exit.then]); refine bodyPost_ret (results_tmp5 rfl _ _ _) rfl ?_
        exact ⟨sb, d, rb, .slice va i vcp, rfl, K, J, M, A, u, st, L, W, HFIN.out⟩
      · have hil : ¬ (i : Int) < (len : Int) := by omega
        go_wp2
        (try simp only [Exit.inBlock, Exit.then]); refine bodyPost_ret (results_tmp5 rfl _ _ _) rfl ?_
        exact ⟨sb, d, rb, .slice va i vcp, rfl, K, J, M, A, u, st, L, W, HFIN.out⟩
end
end
end Go.Proofs.YtfhcphgjaobnoaaDoor
