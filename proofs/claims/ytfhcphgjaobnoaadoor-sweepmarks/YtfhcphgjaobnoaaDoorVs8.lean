/-
  Layer 15: a step of an operation. (Printed by gen_vs8.py.)
-/
import Derived.Test.YtfhcphgjaobnoaaDoorVs7
set_option linter.unusedVariables false
set_option linter.unusedSimpArgs false
namespace Go.Proofs.YtfhcphgjaobnoaaDoor
open Go.RowKit Go.Maps

section
variable {w w' : World} {K Q : Nat → Prop} {sb d z M u B ob g : Nat} {A : Stt} {mark n : Int} {rest : List Int} {l : List Nat}
set_option maxRecDepth 100000 in
set_option maxHeartbeats 2000000 in
theorem next_zero {lb s3 mk : Nat} {ao : Option Addr} {cap : Nat} (hl : w.heap[lb]? = some (.cells #[.slice ao 0 cap] 29 (0, 0))) :
    Calls Tryd.prog 69 #[.pointer (some ⟨lb, 0, none⟩), .pointer (some ⟨s3, 0, none⟩), .pointer (some ⟨mk, 0, none⟩)] w fun e w' => e = .returned (.tuple #[.int .i64 0, .bool true]) ∧ ∃ q, w' = w.drewN q := by
  have c0 : w.cell? ⟨lb, 0, none⟩ = some (.slice ao 0 cap) := by rw [Go.Joins.cell_of_block hl]; rfl
  have hll := (Array.getElem?_eq_some_iff.1 hl).1
  clear hl
  go_enter Tryd.func69, Tryd.ntmps69
  go_wp2
  go_quiet (fail)
  go_wp2
  go_ret2
  exact ⟨rfl, _, rfl⟩
theorem seq_tail {b off cap : Nat} (h : Seq 1 ih w (some ⟨b, off, none⟩) (rest.length + 1) cap (n :: rest)) (ao : Option Addr) (ha : 0 < rest.length → ao = some ⟨b, off + 1, none⟩) {cap' : Nat} (hc : cap' = cap - 1) : Seq 1 ih w ao rest.length cap' rest := by
  have h1 := h.2.1
  have h2 := h.2.2.1
  refine ⟨rfl, by omega, by omega, fun q => ?_⟩
  obtain ⟨b', off', e, hbl, hcl⟩ := h.2.2.2 (by omega)
  injection e with e
  injection e with e1 e2 e3
  subst e1 e2
  refine ⟨b, off + 1, ha q, hbl, fun i x hi j v hv => ?_⟩
  have := hcl (i + 1) x (by simpa using hi) j v hv
  rw [show off + 1 + i * 1 + j = off + (i + 1) * 1 + j by omega]
  exact this
set_option maxRecDepth 100000 in
set_option maxHeartbeats 4000000 in
theorem next_cons {lb s3 mk b off cap : Nat} (h : Rp w K sb d z M A u) (hn : i64ok n) (hc : ChN A n l) (hll : l.length < 1000000) (hM : M < 3600000000000000000)
    (h1 : w.heap[lb]? = some (.cells #[.slice (some ⟨b, off, none⟩) (rest.length + 1) cap] 29 (0, 0))) (h2 : w.heap[s3]? = some (.cells #[.pointer (some ⟨sb, 0, none⟩)] 30 (0, 0))) (h3 : w.heap[mk]? = some (.cells #[.int .i64 mark] 2 (0, 0)))
    (hs : Seq 1 ih w (some ⟨b, off, none⟩) (rest.length + 1) cap (n :: rest)) (k1 : ¬ K lb) (k2 : ¬ K s3) (k3 : ¬ K mk) (k4 : ¬ K b) (hne : b ≠ lb) (hlb : lb ≠ 0) :
    Calls Tryd.prog 69 #[.pointer (some ⟨lb, 0, none⟩), .pointer (some ⟨s3, 0, none⟩), .pointer (some ⟨mk, 0, none⟩)] w fun e w' => e = .returned (.tuple #[.int .i64 (goneN mark A l : Nat), .bool rest.isEmpty]) ∧ 3 * goneN mark A l ≤ u ∧
      ∃ K' ao' cap', Rp w' K' sb d z (M + 10 + 5 * l.length) (swpA mark A n.toNat l) (u - 3 * goneN mark A l) ∧ (∀ j, j < w.heap.size → (K' j ↔ K j)) ∧ Fr (fun j => K j ∨ j = lb) w w' ∧ w'.heap[lb]? = some (.cells #[.slice ao' rest.length cap'] 29 (0, 0)) ∧ Seq 1 ih w' ao' rest.length cap' rest ∧ ∃ off', ao' = some ⟨b, off', none⟩ := by
  have l1 := (Array.getElem?_eq_some_iff.1 h1).1
  have l2 := (Array.getElem?_eq_some_iff.1 h2).1
  have l3 := (Array.getElem?_eq_some_iff.1 h3).1
  obtain ⟨b', off', e0, l4, hcell⟩ := hs.2.2.2 (by omega)
  injection e0 with e0
  injection e0 with e1 e2 e3
  subst e1 e2
  have c0 : w.cell? ⟨lb, 0, none⟩ = some (.slice (some ⟨b, off, none⟩) (rest.length + 1) cap) := by rw [Go.Joins.cell_of_block h1]; rfl
  have c1 : w.cell? ⟨s3, 0, none⟩ = some (.pointer (some ⟨sb, 0, none⟩)) := by rw [Go.Joins.cell_of_block h2]; rfl
  have c2 : w.cell? ⟨mk, 0, none⟩ = some (.int .i64 mark) := by rw [Go.Joins.cell_of_block h3]; rfl
  have c3 : w.cell? ⟨b, off, none⟩ = some (.int .i64 n) := by have := hcell 0 n rfl 0 _ rfl; simpa using this
  have hcap := hs.2.1
  have hmax := hs.2.2.1
  unfold maxLen at hmax
  have HSW := hide2 (sweepNode_any (w := w.drew) (h.keep (G := fun _ => False) (Fr.refl _ w).drew (fun _ _ e => e) id) hn hc mark hll hM)
  have HS := hide2 hs
  have H1 := hide2 h1
  have FRC : Hid (∀ w5, Fr K w.drew w5 → w5.cell? ⟨s3, 0, none⟩ = some (.pointer (some ⟨sb, 0, none⟩)) ∧ w5.cell? ⟨lb, 0, none⟩ = some (.slice (some ⟨b, off, none⟩) (rest.length + 1) cap) ∧ w5.cell? ⟨b, off, none⟩ = some (.int .i64 n) ∧ w5.cell? ⟨mk, 0, none⟩ = some (.int .i64 mark) ∧ s3 < w5.heap.size ∧ lb < w5.heap.size ∧ b < w5.heap.size ∧ mk < w5.heap.size) := hide2 (fun w5 h5 => by
    have hsz := h5.size
    have hsz2 : w.drew.heap.size = w.heap.size := rfl
    refine ⟨(h5.cell (p := ⟨s3, 0, none⟩) l2 k2).trans c1, (h5.cell (p := ⟨lb, 0, none⟩) l1 k1).trans c0, (h5.cell (p := ⟨b, off, none⟩) l4 k4).trans c3, (h5.cell (p := ⟨mk, 0, none⟩) l3 k3).trans c2, by omega, by omega, by omega, by omega⟩)
  have gt : ((rest.length + 1 : Nat) : Int) > 0 := by omega
  have gt2 : (0 : Int) < ((rest.length + 1 : Nat) : Int) := by omega
  have gt3 : decide ((0 : Int) < ((rest.length + 1 : Nat) : Int)) = true := by simp
  have HK1 := hide2 k1
  have HKB := hide2 k4
  clear h hc h1 h2 h3 hs hcell k1 k2 k3 k4
  go_enter Tryd.func69, Tryd.ntmps69
  go_wp2_with fail
  refine wp_region_noPanic ?_
  refine wp_region_held_drew (S := (fun u : World => u.cell? ⟨s3, 0, none⟩ = some (.pointer (some ⟨sb, 0, none⟩)) ∧ u.cell? ⟨lb, 0, none⟩ = some (.slice (some ⟨b, off, none⟩) (rest.length + 1) cap) ∧ u.cell? ⟨b, off, none⟩ = some (.int .i64 n) ∧ u.cell? ⟨mk, 0, none⟩ = some (.int .i64 mark) ∧ s3 < u.heap.size ∧ lb < u.heap.size ∧ b < u.heap.size ∧ mk < u.heap.size)) (by kernel_rfl) (⟨c1, c0, c3, c2, l2, l1, l4, l3⟩) (fun hHeld => ?_)
  refine wpAnyH_take (i := 0) (oi := { dst := some 9, op := _, type := _, pos := _, after := _, guard := _ }) (v := ?_) rfl (by kernel_rfl) (by kernel_rfl) (by kernel_rfl) (fun _ _ _ h => h) (Or.inl ⟨by rfl, ?_⟩) (by assumption) ?_
  rotate_left 1
  · intro u hSw; obtain ⟨s1, s2, s3, s4, s5, s6, s7, s8⟩ := hSw; go_simp; try with_reducible rfl
  try simp only [Act.put, List.setIfInBounds_toArray, List.set_cons_zero, List.set_cons_succ]
  refine wpAnyH_take (i := 1) (oi := { dst := some 10, op := _, type := _, pos := _, after := _, guard := _ }) (v := ?_) rfl (by kernel_rfl) (by kernel_rfl) (by kernel_rfl) (fun _ _ _ h => h) (Or.inl ⟨by rfl, ?_⟩) (by assumption) ?_
  rotate_left 1
  · intro u hSw; obtain ⟨s1, s2, s3, s4, s5, s6, s7, s8⟩ := hSw; go_simp; try with_reducible rfl
  try simp only [Act.put, List.setIfInBounds_toArray, List.set_cons_zero, List.set_cons_succ]
  refine wpAnyH_take (i := 2) (oi := { dst := some 11, op := _, type := _, pos := _, after := _, guard := _ }) (v := ?_) rfl (by kernel_rfl) (by kernel_rfl) (by kernel_rfl) (fun _ _ _ h => h) (Or.inl ⟨by rfl, ?_⟩) (by assumption) ?_
  rotate_left 1
  · intro u hSw; obtain ⟨s1, s2, s3, s4, s5, s6, s7, s8⟩ := hSw; go_simp; try with_reducible rfl
  try simp only [Act.put, List.setIfInBounds_toArray, List.set_cons_zero, List.set_cons_succ]
  refine wpAnyH_take (i := 3) (oi := { dst := some 12, op := _, type := _, pos := _, after := _, guard := _ }) (v := ?_) rfl (by kernel_rfl) (by kernel_rfl) (by kernel_rfl) (fun _ _ _ h => h) (Or.inl ⟨by rfl, ?_⟩) (by assumption) ?_
  rotate_left 1
  · intro u hSw; obtain ⟨s1, s2, s3, s4, s5, s6, s7, s8⟩ := hSw; go_simp; try with_reducible rfl
  try simp only [Act.put, List.setIfInBounds_toArray, List.set_cons_zero, List.set_cons_succ]
  refine wpAnyH_take (i := 4) (oi := { dst := some 13, op := _, type := _, pos := _, after := _, guard := _ }) (v := ?_) rfl (by kernel_rfl) (by kernel_rfl) (by kernel_rfl) (fun _ _ _ h => h) (Or.inl ⟨by rfl, ?_⟩) (by assumption) ?_
  rotate_left 1
  · intro u hSw; obtain ⟨s1, s2, s3, s4, s5, s6, s7, s8⟩ := hSw; go_simp; try with_reducible rfl
  try simp only [Act.put, List.setIfInBounds_toArray, List.set_cons_zero, List.set_cons_succ]
  refine wpAnyH_ready (rs := [5]) (by kernel_rfl) (by simp) ?_
  refine AllReadyH.cons (o := { dst := some 14, op := _, type := _, pos := _, after := _, guard := _ }) rfl (fun Kq hK => ?_) AllReadyH.nil
  obtain ⟨s1, s2, s3, s4, s5, s6, s7, s8⟩ := hHeld
  go_simp
  refine HSW.out.mono ?_
  rintro e w5 ⟨rfl, hu5, K5, hR5, hk5, hF5⟩
  go_wp2_with fail
  refine hK.out _ _ (FRC.out w5 hF5) (fun hHeld => ?_)
  clear hK Kq
  try simp only [Act.put, List.setIfInBounds_toArray, List.set_cons_zero, List.set_cons_succ]
  refine wpAnyH_take (i := 6) (oi := { dst := some 5, op := _, type := _, pos := _, after := _, guard := _ }) (v := ?_) rfl (by kernel_rfl) (by kernel_rfl) (by kernel_rfl) (fun _ _ _ h => h) (Or.inl ⟨by rfl, ?_⟩) (by assumption) ?_
  rotate_left 1
  · intro u hSw; obtain ⟨s1, s2, s3, s4, s5, s6, s7, s8⟩ := hSw; go_simp; try with_reducible rfl
  try simp only [Act.put, List.setIfInBounds_toArray, List.set_cons_zero, List.set_cons_succ]
  refine wpAnyH_done (by kernel_rfl) ?_ _
  refine NoPanic.normal ?_
  obtain ⟨y1, y0, y3, y2, m2, m1, m4, m3⟩ := hHeld
  have hF : Fr K w w5 := (Fr.refl K w).drew.trans hF5 (fun j e => .inl e)
  have hb5 := (hF.block lb l1 HK1.out).trans H1.out
  have fz : w5.frozen? ⟨lb, 0, none⟩ = false := Go.Joins.unfrozen_of_block hb5 0
  have sq5 : Seq 1 ih w5 (some ⟨b, off, none⟩) (rest.length + 1) cap (n :: rest) := ⟨HS.out.1, HS.out.2.1, HS.out.2.2.1, fun q => by
    obtain ⟨b', off', e, hbl, hc⟩ := HS.out.2.2.2 q
    injection e with e
    injection e with e1 e2 e3
    subst e1 e2
    exact ⟨b, off, rfl, m4, fun i x hi j v hv => (hF.cell (p := ⟨b, off + i * 1 + j, none⟩) l4 HKB.out).trans (hc i x hi j v hv)⟩⟩
  have HFIN : Hid (∀ ao' cap' off' q, (0 < rest.length → ao' = some ⟨b, off + 1, none⟩) → cap' = cap - 1 → ao' = some ⟨b, off', none⟩ → 3 * goneN mark A l ≤ u ∧ ∃ K' ao2 cap2, Rp ((w5.setCell ⟨lb, 0, none⟩ (.slice ao' rest.length cap')).drewN q) K' sb d z (M + 10 + 5 * l.length) (swpA mark A n.toNat l) (u - 3 * goneN mark A l) ∧ (∀ j, j < w.heap.size → (K' j ↔ K j)) ∧ Fr (fun j => K j ∨ j = lb) w ((w5.setCell ⟨lb, 0, none⟩ (.slice ao' rest.length cap')).drewN q) ∧ ((w5.setCell ⟨lb, 0, none⟩ (.slice ao' rest.length cap')).drewN q).heap[lb]? = some (.cells #[.slice ao2 rest.length cap2] 29 (0, 0)) ∧ Seq 1 ih ((w5.setCell ⟨lb, 0, none⟩ (.slice ao' rest.length cap')).drewN q) ao2 rest.length cap2 rest ∧ ∃ off', ao2 = some ⟨b, off', none⟩) := hide2 (fun ao' cap' off' q ha hc' he => by
    have hF6 : Fr (fun j => j = lb) w5 ((w5.setCell ⟨lb, 0, none⟩ (.slice ao' rest.length cap')).drewN q) := (Fr.setCell (p := ⟨lb, 0, none⟩) (Fr.refl (fun j => j = lb) w5) (.inl rfl) _).drewN q
    have hnk : ∀ j, K5 j → ¬ j = lb := fun j hj e => HK1.out ((hk5 lb l1).1 (e ▸ hj))
    refine ⟨hu5, K5, ao', cap', hR5.keep hF6 hnk (fun e => hlb e.symm), hk5, (hF.mono (G := fun j => K j ∨ j = lb) (fun j _ e => .inl e)).trans hF6 (fun j e => .inl (.inr e)), ?_, ?_, off', he⟩
    · show (w5.setCell ⟨lb, 0, none⟩ (.slice ao' rest.length cap')).heap[lb]? = _
      rw [Go.Joins.block_setCell hb5]; rfl
    · have st := seq_tail sq5 ao' ha hc'
      refine ⟨st.1, st.2.1, st.2.2.1, fun q => ?_⟩
      obtain ⟨b', off', e, hbl, hc⟩ := st.2.2.2 q
      have hs6 := hF6.size
      have eb : b' = b := by rw [ha q] at e; injection e with e; injection e with e; exact e.symm
      exact ⟨b', off', e, by omega, fun i x hi j v hv => (hF6.cell (p := ⟨b', off' + i * 1 + j, none⟩) hbl (by rw [eb]; exact hne)).trans (hc i x hi j v hv)⟩)
  clear FRC HSW hu5 hR5 hk5 hF5 hF hb5 sq5 c0 c1 c2 c3 H1 HS y1 y2 y3
  have hor : rest = [] ∨ ∃ n2 r2, rest = n2 :: r2 := by
    cases rest with
    | nil => exact .inl rfl
    | cons n2 r2 => exact .inr ⟨n2, r2, rfl⟩
  rcases hor with hr | ⟨n2, r2, hr⟩
  · subst hr
    by_cases hcp : 1 < cap
    · have k1 : (1 : Int) < (cap : Int) := by omega
      have HX := hide2 (fun q => HFIN.out (some ⟨b, off + 1, none⟩) (cap - 1) (off + 1) q (fun _ => rfl) rfl rfl)
      clear HFIN
      go_wp2
      go_quiet (fail)
      go_wp2
      go_ret2
      exact ⟨rfl, HX.out _⟩
    · have k1 : cap = 1 := by simp at hcap; omega
      subst k1
      have HX := hide2 (fun q => HFIN.out (some ⟨b, off, none⟩) 0 off q (fun e => by simp at e) rfl rfl)
      clear HFIN
      go_wp2
      go_quiet (fail)
      go_wp2
      go_ret2
      exact ⟨rfl, HX.out _⟩
  · subst hr
    have k1 : (1 : Int) < (cap : Int) := by simp at hcap; omega
    have HX := hide2 (fun q => HFIN.out (some ⟨b, off + 1, none⟩) (cap - 1) (off + 1) q (fun _ => rfl) rfl rfl)
    clear HFIN
    go_wp2
    go_quiet (fail)
    go_wp2
    go_ret2
    exact ⟨rfl, HX.out _⟩
end
end Go.Proofs.YtfhcphgjaobnoaaDoor
