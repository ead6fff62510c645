/-
  VsC: Layer 15: the program's store and the document's side by side, as the law lays chains.
  VsE: Layer 15: who is seen: the law's sees.
-/
import Derived.Test.YtfhcphgjaobnoaaDoorVtB
set_option linter.unusedVariables false
set_option linter.unusedSimpArgs false
namespace Go.Proofs.YtfhcphgjaobnoaaDoor

section
open Go.RowKit Go.Maps

/-- Both stores, which a call has made. -/
structure Ld (w wr : World) (K J : Nat → Prop) (sb d rb M : Nat) (A : Stt) (u : Nat) (st : Int) : Prop where
  p : Rp wr K sb d 4000 M A u
  r : Rf wr J rb A ((4000 : Int) - (u : Int)) st
  ap : ∀ j, K j → ¬ J j
  kb : ∀ j, K j ∨ J j → w.heap.size ≤ j
  bl : Below w.heap.size w wr
section
variable {w wr w1 w2 : World} {K J : Nat → Prop} {sb d rb M M' u u' : Nat} {A A' : Stt} {st st' fr' : Int}
theorem Ld.mid (h : Ld w wr K J sb d rb M A u st) (h1 : Aft wr w1 K sb d 4000 M' A' u') : Rf w1 J rb A ((4000 : Int) - (u : Int)) st := by
  obtain ⟨K1, hr, hk, hF⟩ := h1
  exact h.r.keep hF (fun j hj hk => h.ap j hk hj)
theorem Ld.fin (h : Ld w wr K J sb d rb M A u st) (h1 : Aft wr w1 K sb d 4000 M' A' u') (h2 : Raf w1 w2 J rb A' fr' st') (hfr : (4000 : Int) - (u' : Int) = fr') :
    ∃ K' J', Ld w w2 K' J' sb d rb M' A' u' st' ∧ (∀ j, j < wr.heap.size → ((K' j ∨ J' j) ↔ (K j ∨ J j))) ∧ Fr (fun j => K j ∨ J j) wr w2 := by
  obtain ⟨K1, hr, hk, hF⟩ := h1
  obtain ⟨J1, hr2, hk2, hF2⟩ := h2
  have hs1 := hF.size
  have hs := h.bl.size
  have hjl := h.r.jl
  have hkl := hr.kl
  have a1 : ∀ j, K1 j → ¬ J j := fun j q q2 => h.ap j ((hk j (hjl j q2)).1 q) q2
  have a2 : ∀ j, K1 j → ¬ J1 j := fun j q q2 => a1 j q ((hk2 j (hkl j q)).1 q2)
  have iff : ∀ j, j < wr.heap.size → ((K1 j ∨ J1 j) ↔ (K j ∨ J j)) := fun j hj => by rw [hk j hj, hk2 j (by omega)]
  have fr : Fr (fun j => K j ∨ J j) wr w2 := (hF.mono (G := fun j => K j ∨ J j) (fun j _ e => .inl e)).trans (hF2.mono (G := fun j => K j ∨ J j) (fun j _ e => .inr e)) (fun j e => .inl e)
  refine ⟨K1, J1, ⟨hr.keep hF2 a1 h.r.j0, by rw [hfr]; exact hr2, a2, fun j hj => ?_, h.bl.trans (fr.to (fun j hj e => ?_) hs)⟩, iff, fr⟩
  · rcases Nat.lt_or_ge j wr.heap.size with q | q
    · exact h.kb j ((iff j q).1 hj)
    · omega
  · have := h.kb j e; omega
theorem Ld.below (h : Ld w wr K J sb d rb M A u st) (hb : Below wr.heap.size wr w2) : Ld w w2 K J sb d rb M A u st :=
  ⟨h.p.below hb, h.r.keep (G := fun _ => False) (Fr.below hb) (fun _ _ => id), h.ap, h.kb, h.bl.trans ⟨hb.os, hb.tape, hb.output, hb.size, fun j hj => hb.block j (by have := h.bl.size; omega)⟩⟩
theorem Ld.keep {G : Nat → Prop} (h : Ld w wr K J sb d rb M A u st) (hF : Fr G wr w2) (hG : ∀ j, K j ∨ J j → ¬ G j) (h0 : ∀ j, G j → w.heap.size ≤ j) (hw : 0 < w.heap.size) : Ld w w2 K J sb d rb M A u st :=
  ⟨h.p.keep hF (fun j hj => hG j (.inl hj)) (fun e => by have := h0 0 e; omega), h.r.keep hF (fun j hj => hG j (.inr hj)), h.ap, h.kb, h.bl.trans (hF.to (fun j hj e => by have := h0 j e; omega) h.bl.size)⟩
theorem Ld.up (h : Ld w wr K J sb d rb M A u st) (hM : M ≤ M') : Ld w wr K J sb d rb M' A u st := ⟨h.p.up hM, h.r, h.ap, h.kb, h.bl⟩
theorem Ld.ul (h : Ld w wr K J sb d rb M A u st) : u ≤ 4000 := by
  obtain ⟨m, _, hr⟩ := h.p.re
  exact hr.ul
theorem Ld.kl (h : Ld w wr K J sb d rb M A u st) {j : Nat} (e : K j ∨ J j) : j < wr.heap.size := by
  rcases e with e | e
  · exact h.p.kl j e
  · exact h.r.jl j e

/-! ### what the law's body calls -/
theorem ver_never {t : ByteArray} {b x : Int} : A.ver t b x = (A.ver t b x).put 3 (A.la 1 + 1) 1099511627776 := by
  show Stt.mk _ _ (A.ver t b x).va _ = Stt.mk _ _ (up2 (A.ver t b x).va 3 (A.la 1 + 1) 1099511627776) _
  congr 1
  funext k y
  by_cases q : k = 3 ∧ y = A.la 1 + 1
  · rw [q.1, q.2, up2_same]
    show up2 (up2 (up2 A.va 2 (A.la 1 + 1) b) 3 (A.la 1 + 1) 1099511627776) 4 (A.la 1 + 1) x 3 (A.la 1 + 1) = _
    rw [up2_other _ _ (fun e => by omega), up2_same]
  · rw [up2_other _ _ q]
theorem lvI_cast (A : Stt) (c n : Nat) : lvI A c (n : Int) = A.lv c n := by unfold Go.Proofs.YtfhcphgjaobnoaaDoor.lvI; rw [Int.toNat_natCast, decide_eq_true (Int.natCast_nonneg n)]; rfl
theorem Frt.lvI (hok : A.ok) {n : Nat} {x : Int} {l : List Nat} (hf : Frt A n x l) : x = 0 ∨ lvI A 1 x = true := by
  rcases hf.xn with e | ⟨y, e, hy, _⟩
  · exact .inl e
  · right
    unfold Go.Proofs.YtfhcphgjaobnoaaDoor.lvI
    rw [e]
    simp [hy]
variable {K0 : Nat → Prop} {z : Nat} {t : ByteArray} {b x e : Int} {n : Nat} {l : List Nat}
theorem lr_ver (h : Rf wr J rb A fr' st) (hok : A.ok) (hf : Frt A n x l) (ht : t.size ≤ 64) (hb : U64 b) (hmb : mbg b = true) (hfr : 3 ≤ fr' ∧ fr' < 100000000000) (hla : A.la 1 < 1000000) :
    Calls Tryd.prog 36 #[.pointer (some ⟨rb, 0, none⟩), .string t, .int .u64 b, .int .i64 x] wr fun e w' => e = .returned (.tuple #[.int .i64 ((A.la 1 + 1 : Nat) : Int), .int .i64 0]) ∧ Raf wr w' J rb (A.ver t b x) (fr' - 3) st := by
  rcases hf.lvI hok with q | q
  · subst q
    exact rVersion_zero h hb ht hmb hfr hla
  · exact rVersion_old h hb ht hmb q hfr hla
theorem lp_end (h : Rp wr K sb d z M A u) {v : Nat} (hv : A.lv 1 v = true) (he : U64 e) (hp : ptO e = true) (hM : M < 3800000000000000000) :
    Calls Tryd.prog 37 #[.pointer (some ⟨sb, 0, none⟩), .int .i64 (v : Int), .int .u64 e] wr fun q w' => q = .returned (.int .i64 0) ∧ Aft wr w' K sb d z (M + 1) (A.put 3 v e) u := by
  obtain ⟨m, hm, hr⟩ := h.re
  refine (setEndE hr hv he hp (by omega)).mono ?_
  rintro q w' ⟨rfl, K', q1, q2, q3⟩
  exact ⟨rfl, K', q1.rp (by omega), q2, q3⟩
theorem lr_end (h : Rf wr J rb A fr' st) {v : Nat} (hv : A.lv 1 (v + 1) = true) (he : U64 e) (hp : ptO e = true) (hst : 0 ≤ st ∧ st < 1000000000) :
    Calls Tryd.prog 38 #[.pointer (some ⟨rb, 0, none⟩), .int .i64 ((v + 1 : Nat) : Int), .int .u64 e] wr fun q w' => q = .returned (.int .i64 0) ∧ Raf wr w' J rb (A.put 3 (v + 1) e) fr' (st + 1) := rSetEnd_yes h hv he hp hst
theorem ve_facts (hok : A.ok) (hf : Frt A n x l) : ((A.ver t b x).put 3 (A.la 1 + 1) e).va 0 n = x ∧ ((A.ver t b x).put 3 (A.la 1 + 1) e).lv 0 n = true ∧ ((A.ver t b x).put 3 (A.la 1 + 1) e).lv 1 (A.la 1 + 1) = true ∧ ∀ y, A.lv 1 y = true → ((A.ver t b x).put 3 (A.la 1 + 1) e).lv 1 y = true := by
  refine ⟨?_, ?_, ?_, fun y hy => ?_⟩
  · show up2 (A.ver t b x).va 3 (A.la 1 + 1) e 0 n = x
    rw [up2_other _ _ (fun q => by omega), ver_va0, hf.hd]
  · show (A.ver t b x).lv 0 n = true
    rw [ver_lv (by decide)]; exact hf.lv
  · show (A.ver t b x).lv 1 (A.la 1 + 1) = true
    rw [ver_lv1, if_pos rfl]
  · show (A.ver t b x).lv 1 y = true
    rw [ver_lv1]
    split
    · rfl
    · exact hy
theorem lp_push (h : Rp wr K sb d z M ((A.ver t b x).put 3 (A.la 1 + 1) e) u) (hok : A.ok) (hf : Frt A n x l) (hM : M < 3800000000000000000) :
    Calls Tryd.prog 27 #[.pointer (some ⟨sb, 0, none⟩), .int .i64 (n : Int), .int .i64 x, .int .i64 ((A.la 1 + 1 : Nat) : Int)] wr fun q w' => q = .returned (.tuple #[.bool true, .int .i64 0]) ∧ Aft wr w' K sb d z (M + 1) (A.lead n t b e x) u := by
  obtain ⟨f1, f2, f3, f4⟩ := ve_facts (t := t) (b := b) (e := e) hok hf
  have hd : decide (((A.ver t b x).put 3 (A.la 1 + 1) e).va 0 n = x) = true := by rw [f1]; simp
  have key : ∀ q w', (q = Ending.returned (.tuple #[.bool (decide (((A.ver t b x).put 3 (A.la 1 + 1) e).va 0 n = x)), .int .i64 0]) ∧ Aft wr w' K sb d z (M + 1) (((A.ver t b x).put 3 (A.la 1 + 1) e).swap 0 n x ((A.la 1 + 1 : Nat) : Int)) u) → q = .returned (.tuple #[.bool true, .int .i64 0]) ∧ Aft wr w' K sb d z (M + 1) (A.lead n t b e x) u := by
    rintro q w' ⟨rfl, a⟩
    rw [hd]
    rw [lead_eq hf.hd] at a
    exact ⟨rfl, a⟩
  rcases hf.xn with hx | ⟨y, hx, hy, _⟩
  · subst hx
    exact (push_zero h f2 f3 (by omega)).mono key
  · subst hx
    exact (push_old h f2 f3 (f4 y hy) (by omega)).mono key
theorem lr_push (h : Rf wr J rb ((A.ver t b x).put 3 (A.la 1 + 1) e) fr' st) (hok : A.ok) (hf : Frt A n x l) (hst : 0 ≤ st ∧ st < 1000000000) :
    Calls Tryd.prog 39 #[.pointer (some ⟨rb, 0, none⟩), .int .i64 (n : Int), .int .i64 x, .int .i64 ((A.la 1 + 1 : Nat) : Int)] wr fun q w' => q = .returned (.tuple #[.bool true, .int .i64 0]) ∧ Raf wr w' J rb (A.lead n t b e x) fr' (st + 1) := by
  obtain ⟨f1, f2, f3, f4⟩ := ve_facts (t := t) (b := b) (e := e) hok hf
  have hn := hok.n1 0 n hf.lv
  obtain ⟨k, rfl⟩ : ∃ k, n = k + 1 := ⟨n - 1, by omega⟩
  have hsw := lead_eq (A := A) (t := t) (b := b) (e := e) hf.hd
  unfold Stt.swap at hsw
  rw [if_pos f1] at hsw
  have hnow : lvI ((A.ver t b x).put 3 (A.la 1 + 1) e) 1 ((A.la 1 + 1 : Nat) : Int) = true := by rw [lvI_cast]; exact f3
  rw [← hsw]
  rcases hf.xn with hx | ⟨y, hx, hy, _⟩
  · subst hx
    exact rPush_yes_zero h f2 hnow f1 hst
  · have hold : lvI ((A.ver t b x).put 3 (A.la 1 + 1) e) 1 x = true := by subst hx; rw [lvI_cast]; exact f4 y hy
    exact rPush_yes_old h f2 hold hnow f1 hst
end

/-! ### the chains that come in -/
structure ChR where
  bo : Option Addr
  lb : Nat
  cb : Nat
  eo : Option Addr
  le : Nat
  ce : Nat
  bs : List Int
  es : List Int
def ChR.cells (c : ChR) : List Value := [.slice c.bo c.lb c.cb, .slice c.eo c.le c.ce]
structure ChR.ok (w : World) (c : ChR) : Prop where
  b : Seq 1 uh w c.bo c.lb c.cb c.bs
  e : Seq 1 uh w c.eo c.le c.ce c.es
  b0 : ∀ x ∈ c.bs, U64 x
  e0 : ∀ x ∈ c.es, U64 x
theorem ChR.ok.keep {w w' : World} {c : ChR} (h : c.ok w) (hb : Below w.heap.size w w') : c.ok w' := ⟨h.b.keep hb, h.e.keep hb, h.b0, h.e0⟩
/-- What the first k begins of a chain leave, the newest first. -/
def ld1 (bs es : List Int) : Nat → List (Int × Int)
  | 0 => []
  | k + 1 => if mbg (bs.getD k 0) = true then (bs.getD k 0, if k < es.length ∧ ptO (es.getD k 0) = true then es.getD k 0 else 1099511627776) :: ld1 bs es k else ld1 bs es k
theorem seq_u {w : World} {ao : Option Addr} {len cap : Nat} {xs : List Int} (h : Seq 1 uh w ao len cap xs) {k : Nat} (hk : k < len) : ∃ b off, ao = some ⟨b, off, none⟩ ∧ b < w.heap.size ∧ w.cell? ⟨b, off + k, none⟩ = some (.int .u64 (xs.getD k 0)) ∧ xs.getD k 0 ∈ xs := by
  obtain ⟨b, off, e, hl, hc⟩ := h.2.2.2 (by omega)
  have hk2 : k < xs.length := by rw [h.1]; exact hk
  have e2 : xs.getD k 0 = xs[k] := by simp [List.getD, List.getElem?_eq_getElem hk2]
  refine ⟨b, off, e, hl, ?_, by rw [e2]; exact List.getElem_mem hk2⟩
  have := hc k xs[k] (List.getElem?_eq_getElem hk2) 0 _ rfl
  rw [e2]
  simpa using this
theorem seq_c {w : World} {ao : Option Addr} {len cap : Nat} {cs : List ChR} (h : Seq 2 ChR.cells w ao len cap cs) {k : Nat} (hk : k < len) : ∃ b off c, ao = some ⟨b, off, none⟩ ∧ b < w.heap.size ∧ cs[k]? = some c ∧ w.cell? ⟨b, off + k * 2, none⟩ = some (.slice c.bo c.lb c.cb) ∧ w.cell? ⟨b, off + k * 2 + 1, none⟩ = some (.slice c.eo c.le c.ce) := by
  obtain ⟨b, off, e, hl, hc⟩ := h.2.2.2 (by omega)
  obtain ⟨c, hcc⟩ := some_at h.1 hk
  exact ⟨b, off, c, e, hl, hcc, hc k c hcc 0 _ rfl, hc k c hcc 1 _ rfl⟩
end

section
open Go.RowKit Go.Maps

/-- A version with its words. -/
def vp (A : Stt) (v : Nat) : Nat × (Int × Int) := (v, pr A v)
theorem fs_first {A : Stt} {at_ : Int} : ∀ {l : List Nat} {k : Nat} {v : Nat}, l[k]? = some v → (∀ x ∈ l.take k, ¬ ((pr A x).1 ≤ at_ ∧ at_ < (pr A x).2)) → ((pr A v).1 ≤ at_ ∧ at_ < (pr A v).2) → fs at_ (l.map (vp A)) = v
  | [], k, v, h, _, _ => by simp at h
  | x :: l, 0, v, h, _, hv => by
    simp at h; subst h
    show (if (pr A x).1 ≤ at_ ∧ at_ < (pr A x).2 then x else _) = x
    rw [if_pos hv]
  | x :: l, k + 1, v, h, hn, hv => by
    show (if (pr A x).1 ≤ at_ ∧ at_ < (pr A x).2 then x else fs at_ (l.map (vp A))) = v
    rw [if_neg (hn x (by simp))]
    exact fs_first (by simpa using h) (fun y hy => hn y (by simp [hy])) hv
theorem fs_no {A : Stt} {at_ : Int} {l : List Nat} (h : ∀ x ∈ l, ¬ ((pr A x).1 ≤ at_ ∧ at_ < (pr A x).2)) : fs at_ (l.map (vp A)) = 0 := fs_none (fun p hp => by
  obtain ⟨x, hx, rfl⟩ := List.mem_map.1 hp
  exact h x hx)
theorem see_val {at_ b e : Int} (ha : 0 ≤ at_ ∧ at_ < 1099511627776) (hb : 0 ≤ b ∧ b < 1099511627776) (he : 0 ≤ e ∧ e ≤ 1099511627776) : seE 0 at_ b e 0 0 = 0 ∧ ((b ≤ at_ ∧ at_ < e) → seV 0 at_ b e 0 0 = 1) ∧ (¬ (b ≤ at_ ∧ at_ < e) → seV 0 at_ b e 0 0 = 2) := by
  have k1 : kd b = 1 := by unfold kd; rw [if_pos hb.2]
  have k2 : kd e = 1 ∨ kd e = 2 := by
    unfold kd
    by_cases q : e < 1099511627776
    · rw [if_pos q]; exact .inl rfl
    · rw [if_neg q, if_pos (by omega)]; exact .inr rfl
  have o1 : isR 0 = true := by decide
  have o2 : isT at_ = true := by unfold isT; simp; omega
  have o3 : egO 0 at_ b 0 = true := by unfold egO; rw [k1]; simp
  have o4 : egO 0 at_ e 0 = true := by unfold egO; rcases k2 with q | q <;> rw [q] <;> simp
  have so : seO 0 at_ b e 0 0 = true := by unfold seO; rw [o1, o2, o3, o4, k1]; rfl
  have v1 : egV 0 at_ b 0 = byT b at_ := by unfold egV; rw [k1]; simp
  have v2 : egV 0 at_ e 0 = byT e at_ := by unfold egV; rcases k2 with q | q <;> rw [q] <;> simp
  refine ⟨by unfold seE; rw [if_pos so], fun h => ?_, fun h => ?_⟩
  · unfold seV
    rw [if_pos so, v1, v2]
    unfold byT
    rw [if_neg (by omega), if_pos (by omega)]
    rfl
  · unfold seV
    rw [if_pos so, v1, v2]
    unfold byT
    by_cases q : b > at_
    · rw [if_pos q]; rfl
    · rw [if_neg q, if_neg (by omega)]; rfl
/-- Words as they stand in chains in order. -/
def Wok (W : List (Int × Int)) : Prop := ∀ p ∈ W, 0 ≤ p.1 ∧ p.1 < 1099511627776 ∧ 0 ≤ p.2 ∧ p.2 ≤ 1099511627776

section
variable {w w' : World} {K : Nat → Prop} {sb d z M u : Nat} {A : Stt}
set_option maxRecDepth 100000 in
set_option maxHeartbeats 4000000 in
theorem lsees_any (h : Rp w K sb d z M A u) {n : Nat} {x : Int} {l : List Nat} (hf : Frt A n x l) (hw : Wok (l.map (pr A))) {at_ : Int} (ha : 0 ≤ at_ ∧ at_ < 1099511627776) (hll : l.length ≤ 100000) (hn9 : n ≤ 1000000) (hM : M < 3700000000000000000) :
    Calls Tryd.prog 24 #[.pointer (some ⟨sb, 0, none⟩), .int .i64 (n : Int), .int .i64 at_] w fun e w' => e = .returned (.int .i64 (fs at_ (l.map (vp A)) : Nat)) ∧ Aft w w' K sb d z (M + 2 + 3 * l.length) A u := by
  have hc : Ch A (A.va 0 n) l := by rw [hf.hd]; exact hf.ch
  have HC := hide2 (chain_any h hf.lv hc (by omega) (by omega))
  have HLV := hide2 hf.ch.live
  have HW := hide2 hw
  have hz0 := h.tab.1
  clear h hf hw hc
  go_enter Tryd.func24, Tryd.ntmps24
  go_wp2_with fail
  refine HC.out.mono ?_
  rintro e w1 ⟨v, rfl, hHr, K1, hR1, hk1, hF1, hv1⟩
  obtain ⟨ao, cp, ev⟩ := hHr.form
  subst ev
  have HH := hide2 hHr
  have HP1 := hide2 hR1
  have HK1 := hide2 hk1
  have HF1 := hide2 hF1
  have HV1 := hide2 hv1
  clear HC hHr hR1 hk1 hF1 hv1
  go_wp2
  go_loopw [8] (fun a wr => ∃ (k : Nat) (K1 : Nat → Prop), k ≤ l.length ∧ a = .int .i64 k ∧ Hid (∀ x ∈ l.take k, ¬ ((pr A x).1 ≤ at_ ∧ at_ < (pr A x).2)) ∧ Hid (Rp wr K1 sb d z (M + 2 + l.length + 2 * k) A u) ∧ Hid (∀ j, j < w.heap.size → (K1 j ↔ K j)) ∧ Hid (Fr K w wr) ∧ Hid (Hr wr w.heap.size (.slice ao l.length cp) l) ∧ Hid (∀ j, (Value.slice ao l.length cp).ownBlock = some j → ¬ K1 j)) (fun a _ => l.length - (intOf a).toNat)
  case atStart => exact ⟨0, K1, by omega, rfl, hide2 (by simp), HP1, HK1, HF1, HH, HV1⟩
  case round =>
    clear HH HP1 HK1 HF1 HV1
    obtain ⟨k, K2, hk, rfl, NO, P, HK, HF, H, HV⟩ := hrel
    have hsz2 := HF.out.size
    by_cases hkl : k < l.length
    · obtain ⟨g0, cap0, ev, q0⟩ := H.out.at hkl
      have hat : l[k]? = some (l.getD k 0) := by rw [List.getD_eq_getElem?_getD, List.getElem?_eq_getElem hkl]; rfl
      have hmem : l.getD k 0 ∈ l := List.mem_of_getElem? hat
      have hlv := HLV.out _ hmem
      have HTK := hide2 (take_snoc hat)
      have HAT := hide2 hat
      obtain ⟨y, hy⟩ : ∃ y, y = l.getD k 0 := ⟨_, rfl⟩
      rw [← hy] at q0 hlv HTK HAT hmem
      have hwp := HW.out (pr A y) (List.mem_map.2 ⟨y, hmem, rfl⟩)
      injection ev with e1 e2 e3
      subst e1 e3
      have hkl2 : (k : Int) < (l.length : Int) := by omega
      have hg0 : g0 < wr.heap.size := (World.ownsRow.lt H.out g0 rfl).2
      have HBG := hide2 (sbegin_any P.out hlv (by omega))
      have HLX := hide2 hlv
      clear hmem hy hlv hat
      go_wp2_with fail
      refine HBG.out.mono ?_
      rintro e w2 ⟨rfl, K3, hR3, hk3, hF3⟩
      have hs3 := hF3.size
      have hkn : ¬ K2 g0 := HV.out g0 rfl
      have q1 : w2.cell? ⟨g0, k, none⟩ = some (.int .i64 (y : Int)) := (hF3.cell (p := ⟨g0, k, none⟩) hg0 hkn).trans q0
      have hg1 : g0 < w2.heap.size := by omega
      have HK3 : Hid (∀ j, j < wr.heap.size → (K3 j ↔ K2 j)) := hide2 hk3
      have HF3 : Hid (Fr K2 wr w2) := hide2 hF3
      have HEN := hide2 (end_any hR3 HLX.out (by omega))
      clear HBG hR3 hk3 hF3 q0
      go_wp2_with fail
      refine HEN.out.mono ?_
      rintro e w3 ⟨rfl, K4, hR4, hk4, hF4⟩
      have hs4 := hF4.size
      have hkn3 : ¬ K3 g0 := fun q => hkn ((HK3.out g0 hg0).1 q)
      have q2 : w3.cell? ⟨g0, k, none⟩ = some (.int .i64 (y : Int)) := (hF4.cell (p := ⟨g0, k, none⟩) hg1 hkn3).trans q1
      have hg2 : g0 < w3.heap.size := by omega
      have HP4 := hide2 hR4
      have hkk : ∀ j, j < wr.heap.size → (K4 j ↔ K2 j) := fun j hj => (hk4 j (by omega)).trans (HK3.out j hj)
      have HKK := hide2 hkk
      have HF4 : Hid (Fr K2 wr w3) := hide2 (HF3.out.trans hF4 (fun j e => by
        rcases Nat.lt_or_ge j wr.heap.size with q | q
        · exact .inl ((HK3.out j q).1 e)
        · exact .inr q))
      have hsv := see_val (b := A.va 2 y) (e := A.va 3 y) ha ⟨hwp.1, hwp.2.1⟩ ⟨hwp.2.2.1, hwp.2.2.2⟩
      have hSE := sees_any 0 at_ (A.va 2 y) (A.va 3 y) 0 0 w3 hwp.1 hwp.2.2.1 (by decide) (by decide) (by decide) (by decide)
      rw [hsv.1] at hSE
      have HSE := hide2 hSE
      have HSV := hide2 hsv
      have HAFT : Hid (∀ wq, Fr (fun _ => False) w3 wq → Aft w wq K sb d z (M + 2 + 3 * l.length) A u) := hide2 (fun wq hq => by
        refine ⟨K4, (HP4.out.up (by omega)).keep hq (fun _ _ => id) id, fun j hj => (HKK.out j (by omega)).trans (HK.out j hj), (HF.out.trans HF4.out (fun j e => ?_)).trans hq (fun j e => e.elim)⟩
        rcases Nat.lt_or_ge j w.heap.size with q | q
        · exact .inl ((HK.out j q).1 e)
        · exact .inr q)
      clear HEN hR4 hk4 hF4 hkk HK3 HF3 hSE hsv hwp q1
      by_cases hseen : A.va 2 y ≤ at_ ∧ at_ < A.va 3 y
      · have e1 := HSV.out.2.1 hseen
        rw [e1] at HSE
        have HR : Hid (fs at_ (l.map (vp A)) = y) := hide2 (fs_first HAT.out NO.out hseen)
        clear e1
        go_wp2_with fail
        refine HSE.out.mono ?_
        rintro e w4 ⟨rfl, q⟩
        subst q
        clear HSE
        go_wp2
        go_ret
        exact ⟨by rw [HR.out]; rfl, HAFT.out _ (Fr.refl _ _)⟩
      · have e1 := HSV.out.2.2 hseen
        rw [e1] at HSE
        have HNS := hide2 hseen
        clear e1 hseen
        go_wp2_with fail
        refine HSE.out.mono ?_
        rintro e w4 ⟨rfl, q⟩
        subst q
        clear HSE
        go_wp2
        go_roundw
        case rel =>
          refine ⟨k + 1, K4, by omega, by go_num, hide2 ?_, hide2 (HP4.out.up (by omega)), hide2 (fun j hj => (HKK.out j (by omega)).trans (HK.out j hj)), hide2 (HF.out.trans HF4.out (fun j e => ?_)), hide2 (H.out.fr HF4.out (fun j e => HV.out j e)), hide2 (fun j e q => HV.out j e ((HKK.out j (World.ownsRow.lt H.out j e).2).1 q))⟩
          · rw [HTK.out]
            intro x hx
            rcases List.mem_append.1 hx with e | e
            · exact NO.out x e
            · simp at e; rw [e]; exact HNS.out
          · rcases Nat.lt_or_ge j w.heap.size with q | q
            · exact .inl ((HK.out j q).1 e)
            · exact .inr q
        case measure => simp [intOf]; omega
    · obtain rfl : k = l.length := by omega
      have hk2 : ¬ ((l.length : Int) < (l.length : Int)) := by omega
      have HR : Hid (fs at_ (l.map (vp A)) = 0) := hide2 (fs_no (by have q := NO.out; rw [List.take_length] at q; exact q))
      have HA : Hid (Aft w wr K sb d z (M + 2 + 3 * l.length) A u) := hide2 ⟨K2, P.out.up (by omega), HK.out, HF.out⟩
      clear NO P HK HF H HV
      go_wp2
      go_ret
      exact ⟨by rw [HR.out]; rfl, HA.out⟩
end
end
end Go.Proofs.YtfhcphgjaobnoaaDoor
