/-
  VsB: Layer 15: the law's example; SweepLeast, SweepNone, SweepMarks.
-/
import Derived.Test.YtfhcphgjaobnoaaDoorVt7
set_option linter.unusedVariables false
set_option linter.unusedSimpArgs false
namespace Go.Proofs.YtfhcphgjaobnoaaDoor

section
open Go.RowKit Go.Maps

section
variable {w : World}
set_option maxRecDepth 100000 in
set_option maxHeartbeats 4000000 in
theorem vshown_any (hT : Tab w) : Calls Tryd.prog 9 #[] w fun e w' => e = .returned (.bool true) ∧ Below w.heap.size w w' := by
  have HM := hide2 (New_any 20 w (by decide) (by decide))
  have HT := hide2 hT
  have hz0 := hT.1
  clear hT
  go_enter Tryd.func9, Tryd.ntmps9
  go_wp2_with fail
  refine HM.out.mono ?_
  rintro e w1 ⟨rfl, ⟨F, hA⟩, hb1⟩
  have HN := hide2 (lv_new (g := 0) (z := 20) HT.out hb1 hA)
  clear HM hA hb1
  go_wp2_with fail
  refine HN.out.mono ?_
  rintro e w2 ⟨rfl, K2, L2⟩
  obtain ⟨sb, hsb⟩ : ∃ x, x = w1.heap.size := ⟨_, rfl⟩
  obtain ⟨d, hd⟩ : ∃ x, x = w.heap.size + 1 := ⟨_, rfl⟩
  rw [← hsb, ← hd] at L2
  rw [← hsb, ← hd]
  have HND := hide2 (node_any L2.rp (by decide) (by decide) (by decide))
  have HL2 := hide2 L2
  clear HN hsb hd L2
  go_wp2_with fail
  refine HND.out.mono ?_
  rintro e w3 ⟨rfl, a3⟩
  obtain ⟨K3, L3, -, -⟩ := HL2.out.step a3
  have e1 : ((Stt.zero.la 0 + 1 : Nat) : Int) = 1 := rfl
  rw [e1]
  obtain ⟨w4, hw4⟩ : ∃ q, q = w3.alloc (.cells #[.int .i64 1] 3) := ⟨_, rfl⟩
  have hb4 : Below w3.heap.size w3 w4 := by rw [hw4]; exact (Below.refl _ w3).alloc (Nat.le_refl _) _
  have hsq : Seq 1 ih w4 (some ⟨w3.heap.size, 0, none⟩) 1 1 [1] := ⟨rfl, Nat.le_refl _, by decide, fun _ => ⟨w3.heap.size, 0, rfl, by rw [hw4]; simp, fun i x hi j u hu => by
    rcases i with _ | i
    · simp at hi; subst hi
      rcases j with _ | j
      · simp [ih] at hu; subst hu
        rw [hw4, Go.Joins.cell_of_block (heap_alloc_new w3 _)]; rfl
      · simp [ih] at hu
    · simp at hi⟩⟩
  have HBG := hide2 (begin_any hsq (by decide) 5 (some ⟨sb, 0, none⟩))
  have L4 := L3.below hb4
  have HL4 := hide2 L4
  clear HND HL2 a3 L3 e1 hb4 hsq L4
  go_wp2_with fail
  rw [← hw4]
  clear hw4
  refine HBG.out.mono ?_
  rintro e w5 ⟨ob, Q, rfl, hO, hb5⟩
  have hs4 := HL4.out.bl.size
  have hR5 := HL4.out.rp.below hb5
  have hap : ∀ j, Q j → ¬ K3 j := fun j hj q => by
    have := (hO.ql j hj).1
    have := HL4.out.rp.kl j q
    omega
  have HDN := hide2 (done_any hR5 hO (by omega) hap (by intro x hx; simp at hx; subst hx; exact ⟨by decide, by decide⟩) (by decide) (by decide) (by decide) (by decide) (by decide) (most := 100) (by decide) (by decide))
  have HB5 := hide2 hb5
  have HQL := hide2 hO.ql
  clear HBG hO hb5 hR5 hap
  go_wp2_with fail
  refine HDN.out.mono ?_
  rintro e w6 ⟨rfl, A', G, K', hsw, -, -, -, hO6, -, hF6, -⟩
  have hG : G = 0 := by
    obtain ⟨l, g2, h1, h2, h3⟩ := hsw
    have h0 : ChN Stt.zero.node 1 [] := .inl ⟨by decide, .inr (by decide)⟩
    have := h1.uniq h0
    subst this
    have := h2.2
    simp [goneN] at h3
    omega
  subst hG
  have HGN := hide2 (gone_late hO6)
  have HBA : Hid (Below w.heap.size w w6) := hide2 (by
    have b4 := HL4.out.bl
    have b5 := HB5.out
    refine (b4.trans ⟨b5.os, b5.tape, b5.output, b5.size, fun j hj => b5.block j (by omega)⟩).trans (hF6.to (fun j hj e => ?_) (by have := b5.size; omega))
    rcases e with e | e
    · have := HL4.out.kb j e; omega
    · have := (HQL.out j e).1; omega)
  clear HDN hsw hO6 hF6
  go_wp2_with fail
  refine HGN.out.mono ?_
  rintro e w7 ⟨rfl, q7⟩
  subst q7
  go_wp2
  go_ret
  exact ⟨rfl, HBA.out⟩

theorem lwm_le (now : Int) : ∀ xs : List Int, lwm now xs ≤ now ∧ ∀ x ∈ xs, lwm now xs ≤ x
  | [] => ⟨Int.le_refl _, by simp⟩
  | x :: xs => by
    have h : lwm now (x :: xs) = lwm (if x < now then x else now) xs := rfl
    obtain ⟨h1, h2⟩ := lwm_le (if x < now then x else now) xs
    rw [h]
    refine ⟨?_, fun y hy => ?_⟩
    · split at h1 <;> (split <;> omega)
    · rcases List.mem_cons.1 hy with e | e
      · subst e; split at h1 <;> (split <;> omega)
      · exact h2 y e
theorem lwm_in (now : Int) : ∀ xs : List Int, lwm now xs = now ∨ lwm now xs ∈ xs
  | [] => .inl rfl
  | x :: xs => by
    have h : lwm now (x :: xs) = lwm (if x < now then x else now) xs := rfl
    rw [h]
    rcases lwm_in (if x < now then x else now) xs with q | q
    · rw [q]
      split
      · exact .inr (by simp)
      · exact .inl rfl
    · exact .inr (by simp [q])
set_option maxRecDepth 100000 in
set_option maxHeartbeats 4000000 in
theorem sweepLeast_walk (now : Int) {ao : Option Addr} {len cap : Nat} {xs : List Int} (hT : Tab w) (hs : Seq 1 ih w ao len cap xs) :
    Calls Tryd.prog 8 #[.int .i64 now, .slice ao len cap] w fun e w' => e = .returned (.bool true) ∧ Below w.heap.size w w' := by
  have HS := hide2 (vshown_any hT)
  have HSQ := hide2 hs
  have hcap := hs.2.1
  have hmax := hs.2.2.1
  unfold maxLen at hmax
  clear hT hs
  go_enter Tryd.func8, Tryd.ntmps8
  go_wp2_with fail
  refine HS.out.mono ?_
  rintro e w0 ⟨rfl, hb0⟩
  have HB0 := hide2 hb0
  have hs0 := HSQ.out.keep hb0
  have HW := hide2 (watermark_any now hs0)
  clear HS HSQ hb0
  go_wp2_with fail
  refine HW.out.mono ?_
  rintro e w1 ⟨rfl, q1⟩
  subst q1
  have HLE := hide2 (lwm_le now xs)
  have HIN := hide2 (lwm_in now xs)
  obtain ⟨m, hm⟩ : ∃ m, m = lwm now xs := ⟨_, rfl⟩
  rw [← hm] at HLE HIN
  rw [← hm]
  have hmn := HLE.out.1
  clear HW hm
  go_wp2
  go_loop [8, 7] (fun i a => ∃ k : Nat, k ≤ len ∧ i = .int .i64 k ∧ a = .bool (decide (m = now ∨ m ∈ xs.take k))) (fun i _ => len - (intOf i).toNat)
  case atStart => exact ⟨0, by omega, rfl, by simp; try rfl⟩
  case round =>
    obtain ⟨k, hk, rfl, rfl⟩ := hrel
    by_cases hkl : k < len
    · obtain ⟨b, off, rfl, hbl, hcell⟩ := hs0.2.2.2 (by omega)
      obtain ⟨o, ho⟩ := some_at hs0.1 hkl
      have q0 : w1.cell? ⟨b, off + k, none⟩ = some (.int .i64 o) := by have := hcell k o ho 0 _ rfl; simpa using this
      have HE := hide2 (take_snoc ho)
      have hkl2 : (k : Int) < (len : Int) := by omega
      have hmo := HLE.out.2 o (List.mem_of_getElem? ho)
      have hmo2 : ¬ m > o := by omega
      clear hcell ho
      cases ha : decide (m = now ∨ m ∈ xs.take k) with
      | true =>
        have HA : Hid (m = now ∨ m ∈ xs.take k) := hide2 (of_decide_eq_true ha)
        clear ha
        go_wp2
        go_round
        case rel => exact ⟨k + 1, by omega, by go_num, by
          have : decide (m = now ∨ m ∈ xs.take (k + 1)) = true := by
            rw [HE.out]; simp only [decide_eq_true_eq]
            rcases HA.out with e | e
            · exact .inl e
            · exact .inr (by simp [e])
          rw [this]⟩
        case measure => simp [intOf]; omega
      | false =>
        have HA : Hid (¬ (m = now ∨ m ∈ xs.take k)) := hide2 (of_decide_eq_false ha)
        clear ha
        by_cases hmo3 : m = o
        · have d1 : decide (m = o) = true := by simp [hmo3]
          have d2 : (m == o) = true := by simp [hmo3]
          go_wp2
          go_round
          case rel => exact ⟨k + 1, by omega, by go_num, by
            have : decide (m = now ∨ m ∈ xs.take (k + 1)) = true := by
              rw [HE.out]; simp only [decide_eq_true_eq]; exact .inr (by simp [hmo3])
            rw [this]⟩
          case measure => simp [intOf]; omega
        · have d1 : decide (m = o) = false := by simp [hmo3]
          have d2 : (m == o) = false := by simp [hmo3]
          go_wp2
          go_round
          case rel => exact ⟨k + 1, by omega, by go_num, by
            have : decide (m = now ∨ m ∈ xs.take (k + 1)) = false := by
              rw [HE.out]; simp only [decide_eq_false_iff_not]
              intro e
              rcases e with e | e
              · exact HA.out (.inl e)
              · rcases List.mem_append.1 e with e | e
                · exact HA.out (.inr e)
                · simp at e; exact hmo3 e
            rw [this]⟩
          case measure => simp [intOf]; omega
    · obtain rfl : k = len := by omega
      have hd : decide (m = now ∨ m ∈ xs.take k) = true := by
        rw [take_all hs0.1]; simp only [decide_eq_true_eq]; exact HIN.out
      rw [hd]
      clear hd
      go_wp2
      go_ret
      exact ⟨rfl, HB0.out⟩
set_option maxRecDepth 100000 in
set_option maxHeartbeats 4000000 in
theorem sweepNone_walk {ao : Option Addr} {len cap : Nat} {xs : List Int} (mark : Int) (hT : Tab w) (hs : Seq 1 ih w ao len cap xs) (hl : 8 * len ≤ 140737488351232) :
    Calls Tryd.prog 7 #[.slice ao len cap, .int .i64 mark] w fun e w' => e = .returned (.bool true) ∧ Below w.heap.size w w' := by
  have HS := hide2 (vshown_any hT)
  have HSQ := hide2 hs
  clear hT hs
  go_enter Tryd.func7, Tryd.ntmps7
  go_wp2_with fail
  refine HS.out.mono ?_
  rintro e w0 ⟨rfl, hb0⟩
  have HBG := hide2 (begin_any (HSQ.out.keep hb0) hl mark none)
  have HB0 := hide2 hb0
  clear HS HSQ hb0
  go_wp2_with fail
  refine HBG.out.mono ?_
  rintro e w1 ⟨ob, Q, rfl, hO, hb1⟩
  have HBA : Hid (Below w.heap.size w w1) := hide2 (by
    have b0 := HB0.out
    exact b0.trans ⟨hb1.os, hb1.tape, hb1.output, hb1.size, fun j hj => hb1.block j (by have := b0.size; omega)⟩)
  have H1 := hide2 (ostep_none hO)
  have H2 := hide2 (ostep_nil (w := w1))
  have H3 := hide2 (gone_none hO)
  have H4 := hide2 (gone_nil (w := w1))
  clear HBG hO hb1 HB0
  go_wp2_with fail
  refine H1.out.mono ?_
  rintro e w2 ⟨rfl, q⟩
  subst q
  clear H1
  go_wp2_with fail
  refine H2.out.mono ?_
  rintro e w3 ⟨rfl, q⟩
  subst q
  clear H2
  go_wp2_with fail
  refine H3.out.mono ?_
  rintro e w4 ⟨rfl, q⟩
  subst q
  clear H3
  go_wp2_with fail
  refine H4.out.mono ?_
  rintro e w5 ⟨rfl, q⟩
  subst q
  clear H4
  go_wp2
  go_ret
  exact ⟨rfl, HBA.out⟩
set_option maxRecDepth 100000 in
set_option maxHeartbeats 4000000 in
theorem sweepMarks_walk (now mark : Int) {ao bo co : Option Addr} {la ca lb cb lc cc : Nat} {xs bs es : List Int} (hT : Tab w) (hs : Seq 1 ih w ao la ca xs) (hb : Seq 1 uh w bo lb cb bs) (he : Seq 1 uh w co lc cc es) (hb0 : ∀ x ∈ bs, U64 x) (he0 : ∀ x ∈ es, U64 x) :
    Calls Tryd.prog 3 #[.int .i64 now, .slice ao la ca, .slice bo lb cb, .slice co lc cc, .int .i64 mark] w fun e w' => e = .returned (.bool true) ∧ Below w.heap.size w w' := by
  have HS := hide2 (vshown_any hT)
  have H := hide2 (And.intro hs (And.intro hb (And.intro he (And.intro hb0 he0))))
  clear hT hs hb he hb0 he0
  go_enter Tryd.func3, Tryd.ntmps3
  go_wp2_with fail
  refine HS.out.mono ?_
  rintro e w0 ⟨rfl, hq⟩
  obtain ⟨hs, hb, he, hb0, he0⟩ := H.out
  have HB0 := hide2 hq
  have HW := hide2 (watermark_any now (hs.keep hq))
  have HK := hide2 (skeep_any (mark := mark) (hb.keep hq) (he.keep hq) hb0 he0)
  clear HS hs hb he hb0 he0 hq
  go_wp2_with fail
  refine HW.out.mono ?_
  rintro e w1 ⟨rfl, q⟩
  subst q
  clear HW
  go_wp2_with fail
  refine HK.out.mono ?_
  rintro e w2 ⟨rfl, hb2⟩
  obtain ⟨hs, hb, he, hb0, he0⟩ := H.out
  have hB : Below w.heap.size w w2 := HB0.out.trans ⟨hb2.os, hb2.tape, hb2.output, hb2.size, fun j hj => hb2.block j (by have := HB0.out.size; omega)⟩
  have HW := hide2 (rwatermark_any now (hs.keep hB))
  have HR := hide2 (rkeep_any (mark := mark) (hb.keep hB) (he.keep hB) hb0 he0)
  have HBA := hide2 hB
  obtain ⟨m, hm⟩ : ∃ m, m = lwm now xs := ⟨_, rfl⟩
  rw [← hm] at HW
  rw [← hm]
  obtain ⟨k, hk⟩ : ∃ k, k = kpz mark bs es := ⟨_, rfl⟩
  rw [← hk] at HR
  rw [← hk]
  clear HK hs hb he hb0 he0 hB hb2 hm hk H HB0
  go_wp2_with fail
  refine HW.out.mono ?_
  rintro e w3 ⟨rfl, q⟩
  subst q
  clear HW
  go_wp2_with fail
  refine HR.out.mono ?_
  rintro e w4 ⟨rfl, q⟩
  subst q
  clear HR
  go_wp2
  go_ret
  exact ⟨by simp, HBA.out⟩
theorem sized_seq8 {H : Type} {P : Program} {ts : List TypeId} {ds : List (DataW H)} {t e : TypeId} {d : DataW H} {len j : Nat} (h5 : 8 ≤ P.bytesOf e) (hu : P.underlying t = some (.slice e))
    (h : (DataW.weightsEach P ts ds).all (· ≤ reachBytes) = true) (ht : ts[j]? = some t) (hd : ds[j]? = some d) (hp : Long d len) : 8 * len ≤ 140737488351232 := by
  rcases hp with ⟨_, rfl⟩ | ⟨es, sp, rfl, hl⟩
  · exact Nat.zero_le _
  · have h1 := sized_slice h ht hd hu
    have h2 : (es.length + sp.length) * 8 ≤ (es.length + sp.length) * P.bytesOf e := Nat.mul_le_mul_left _ h5
    unfold reachBytes at h1
    omega
theorem open_times {H : Type} {enc : TypeId × Value → H} {W : World} {a : Option Addr} {len cap : Nat} {d : DataW H} {p : List MemPlace} (h : DataW.Trod enc Tryd.prog W 0 (fun _ => true) true 22 (.slice a len cap) d p) : ∃ xs : List Int, (∀ x ∈ xs, I64 x) ∧ Ints .i64 W a len cap xs ∧ Long d len := by
  obtain ⟨xs, h1, h2⟩ := open_ints_of Tryd.underlying22 Tryd.underlying2 (by kernel_rfl) h
  exact ⟨xs, fun x hx => bounds_i64 (h1 x hx), h2⟩
end
end
end Go.Proofs.YtfhcphgjaobnoaaDoor
