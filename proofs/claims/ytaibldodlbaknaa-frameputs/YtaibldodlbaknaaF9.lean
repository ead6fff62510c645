/-
  What Put does: the walk.
-/
import Derived.Test.YtaibldodlbaknaaF8
set_option linter.unusedVariables false
set_option linter.unusedSimpArgs false
namespace Go.Proofs.Ytaibldodlbaknaa
open Go.RowKit

/-- What Put leaves and answers. -/
def PtR (w : World) (seq : Nat) (xs body : List Int) (e : Ending) (w' : World) : Prop :=
  ∃ v, e = .returned (.tuple #[v, .int .i64 (ptE xs body)]) ∧ Own w' w.heap.size v (ptV seq xs body)

theorem fourBoxes (w : World) (o1 o2 o3 o4 : Obj) :
    let u := (((w.alloc o1).alloc o2).alloc o3).alloc o4
    u.heap[w.heap.size]? = some o1 ∧ u.heap[w.heap.size + 1]? = some o2 ∧ u.heap[w.heap.size + 2]? = some o3 ∧ u.heap[w.heap.size + 3]? = some o4 ∧ u.heap.size = w.heap.size + 4 ∧ Below w.heap.size w u := by
  intro u
  obtain ⟨h1, h2, h3⟩ := alloc2 w o1 o2
  obtain ⟨h4, h5, h6⟩ := alloc2 ((w.alloc o1).alloc o2) o3 o4
  have hb : Below ((w.alloc o1).alloc o2).heap.size ((w.alloc o1).alloc o2) u := ((Below.refl _ _).alloc (Nat.le_refl _) _).alloc (by simp) _
  rw [h3] at h4 h5 h6 hb
  have hb0 : Below w.heap.size w ((w.alloc o1).alloc o2) := ((Below.refl _ _).alloc (Nat.le_refl _) _).alloc (by simp) _
  exact ⟨(hb.block _ (by omega)).trans h1, (hb.block _ (by omega)).trans h2, h4, h5, h6, hb0.trans (hb.mono (by omega))⟩

set_option maxHeartbeats 4000000 in
theorem put_any (ao : Option Addr) (len cap : Nat) (xs : List Int) (seq : Int) (bo : Option Addr) (bl bcap : Nat) (body : List Int) (w : World) (h : Sl w ao len cap xs) (hbd : Sl w bo bl bcap body) (h0 : 0 ≤ seq) (h1 : seq ≤ 18446744073709551615) (hl : len + 100000 ≤ 281474976710656) :
    Calls Try.prog 11 #[.slice ao len cap, .int .u64 seq, .slice bo bl bcap] w fun e w' => PtR w seq.toNat xs body e w' ∧ Below w.heap.size w w' := by
  obtain ⟨i0, hi, hz0, hz1, hz2⟩ := info_parts Try.info5
  have hx := h.1
  have hbx := hbd.1
  have hlen : (len : Int) ≤ 281474976710656 := by omega
  have hbl : (bl : Int) ≤ 9223372036854775807 := by have := hbd.2.1; have := hbd.2.2.1; unfold maxLen at this; omega
  have hnil : Own w w.heap.size (.slice none 0 0) [] := World.ownsRow_nil _ _ _ _
  by_cases hm : ¬ (len : Int) % 32 = 0
  · have hE : Hid (ptE xs body = 2) := by unfold Hid ptE; rw [if_pos (by omega)]
    have hV : Hid (ptV seq.toNat xs body = []) := by unfold Hid ptV; rw [hE.out, if_neg (by decide)]
    have hr1 : ((len : Int) % 32 == 0) = false := by simpa using hm
    have hr2 : ((len : Int) % 32 != 0) = true := by simpa using hm
    go_enter Try.func11, Try.ntmps11
    go_wp2
    go_ret2
    exact ⟨⟨_, by rw [hE.out]; rfl, by rw [hV.out]; exact hnil⟩, Below.refl _ _⟩
  have hm' : (len : Int) % 32 = 0 := by omega
  have hr1 : ((len : Int) % 32 == 0) = true := by simpa using hm'
  have hr2 : ((len : Int) % 32 != 0) = false := by simpa using hm'
  clear hm
  by_cases hbig : 65536 < bl
  · have hE : Hid (ptE xs body = 40) := by unfold Hid ptE; rw [if_neg (by omega), if_pos (by omega)]
    have hV : Hid (ptV seq.toNat xs body = []) := by unfold Hid ptV; rw [hE.out, if_neg (by decide)]
    have hbi : (65536 : Int) < (bl : Int) := by omega
    go_enter Try.func11, Try.ntmps11
    go_wp2
    go_ret2
    exact ⟨⟨_, by rw [hE.out]; rfl, by rw [hV.out]; exact hnil⟩, Below.refl _ _⟩
  have hbi : ¬ (65536 : Int) < (bl : Int) := by omega
  have hE : Hid (ptE xs body = 0) := by unfold Hid ptE; rw [if_neg (by omega), if_neg (by omega)]
  have hV : Hid (ptV seq.toNat xs body = xs ++ lay (nb bl) 161 (st seq.toNat body)) := by unfold Hid ptV fra; rw [hE.out, if_pos rfl, hbx]
  have hstl : (st seq.toNat body).length = bl + 20 := by rw [st_len, hbx]
  have hstb := st_byt seq.toNat hbd.2.2.2.1
  have hge := nb_ge bl
  have hlt := nb_lt bl
  have hpos := nb_pos bl
  have hmk : ∀ u : World, (Instr.makeSlice 22 (.int .i64 ((len : Int) + (nb bl : Int) * 32)) (.int .i64 ((len : Int) + (nb bl : Int) * 32))).run Try.prog u = .ok (.slice (some ⟨u.heap.size, 0, none⟩) (len + 32 * nb bl) (len + 32 * nb bl)) (u.alloc (.cells (madeCells #[.int .u8 0] (len + 32 * nb bl)) 5)) := by
    intro u
    have := run_make (P := Try.prog) u 22 5 i0 (.int .u8 0) Try.underlying22 hi hz0 .i64 .i64 ((len : Int) + (nb bl : Int) * 32) ((len : Int) + (nb bl : Int) * 32) (by omega) (by omega) (by rw [hz2]; omega) (by omega)
    rw [this, hz1]
    have e1 : ((len : Int) + (nb bl : Int) * 32).toNat = len + 32 * nb bl := by omega
    simp only [e1, Nat.mul_one, Value.cells]
  have hblk : ∀ u : World, Calls Try.prog 22 #[.int .i64 ((bl + 20 : Nat) : Int)] u fun e w' => e = .returned (.int .i64 ((nb bl : Nat) : Int)) ∧ w' = u := fun u => blocksOf_any (bl + 20) u (by omega)
  generalize hss : st seq.toNat body = s at *
  generalize hKK : nb bl = K at *
  replace hss := hF hss
  replace hKK := hF hKK
  go_enter Try.func11, Try.ntmps11
  go_wp2_with fail
  refine (unblocked_any bo bl bcap body seq w hbd h0 h1 (by omega)).mono ?_
  rintro e w1 ⟨v1, rfl, hown, hb1⟩
  rw [hss.out] at hown
  obtain ⟨a1, l1, c1, rfl, hsl1, _⟩ := hown.sl' hstb
  obtain rfl : l1 = bl + 20 := by have := hsl1.1; omega
  have hA1 := h.below hb1
  clear hown h hbd
  go_wp2_with fail
  refine (hblk w1).mono ?_
  rintro e w1' ⟨rfl, rfl⟩
  clear hblk
  obtain ⟨B, hB⟩ : ∃ B, B = w1'.heap.size := ⟨_, rfl⟩
  have hrow0 := madeRow w1' (len + 32 * K)
  have hbm : Below w1'.heap.size w1' (w1'.alloc (.cells (madeCells #[.int .u8 0] (len + 32 * K)) 5)) := (Below.refl _ _).alloc (Nat.le_refl _) _
  obtain ⟨w2, hcp, hrow2, hg2, hs2⟩ := hrow0.copy (P := Try.prog) (hA1.below hbm) 22 Try.underlying22 (by kernel_rfl) 3 0 (len + 32 * K) (len + 32 * K) (by omega) (by simp)
  replace hs2 : w2.heap.size = w1'.heap.size + 1 := by rw [hs2]; simp
  have hb12 : Below w1'.heap.size w1' w2 := hbm.trans (gB hg2 (Nat.le_refl _) (by simp))
  have hsl40 := slice_l (P := Try.prog) 22 Try.underlying22 Try.size5 (some ⟨w1'.heap.size, 0, none⟩) (len + 32 * K) (len + 32 * K) len (by omega)
  rw [sliced_at _ _ _ _ _ (by omega), show len + 32 * K - len = 32 * K from by omega, Nat.zero_add] at hsl40
  have hrow2' : Row w2 w1'.heap.size (laid xs s K 0) := by
    have e : laid xs s K 0 = (List.replicate (len + 32 * K) 0).take 0 ++ xs ++ (List.replicate (len + 32 * K) 0).drop (0 + len) := by
      simp [laid, lay]
    rw [e]
    exact hrow2
  go_wp2_with fail
  refine (cut_any (some ⟨w1'.heap.size, len, none⟩) (32 * K) (32 * K) 32 w2).mono ?_
  rintro e w3 ⟨rfl, hw3⟩
  replace hw3 := hF hw3
  replace hs2 := hF hs2
  go_wp2_with fail
  refine (cut_any a1 (bl + 20) c1 31 w3).mono ?_
  rintro e w4 ⟨rfl, hw4⟩
  have h5 := fourBoxes w2 (.cells #[.slice (some ⟨w1'.heap.size, len, none⟩) (32 * K) (32 * K)] 22) (.cells #[.int .i64 ((32 : Nat) : Int)] 3) (.cells #[.slice a1 (bl + 20) c1] 22) (.cells #[.int .i64 ((31 : Nat) : Int)] 3)
  replace hw3 := hw3.out
  replace hs2 := hs2.out
  have hs3 : w3.heap.size = w2.heap.size + 2 := by rw [hw3]; simp
  rw [← hw3, ← hw4] at h5
  obtain ⟨q1, q2, q3, q4, q5, q6⟩ := h5
  rw [hs3, hs2]
  rw [hs2] at q1 q2 q3 q4 q5 q6
  have hP : Pj w1' w1'.heap.size xs s len K 0 w4 := by
    refine ⟨hrow2'.below q6 (by omega), ⟨_, q1, fun _ => by simp⟩, q2, ⟨a1, c1, ?_, ?_⟩, q4, hb12.trans (q6.mono (by omega)), by omega⟩
    · rw [hstl]; exact q3
    · rw [hstl]; simpa using hsl1
  have hbw : Below w.heap.size w w1' := hb1
  have hK31 : 31 * (K - 1) < s.length := by omega
  clear hw3 hw4 q1 q2 q3 q4 q5 q6 hs3 hs2 hcp hrow0 hrow2 hrow2' hg2 hb12 hbm hmk hsl1 hsl40 hA1 hnil hB B
  unfold ctF
  generalize hB : w1'.heap.size = B at *
  replace hB := hF hB
  have hKi : (K : Int) ≤ 3000 := by omega
  go_wp2
  go_loopw [13, 14, 45] (fun kd _ i wr => ∃ (j : Nat) (k : Int), j ≤ K ∧ i = .int .i64 (j : Int) ∧ kd = .int .u8 k ∧ Hid (k = if j = 0 then 161 else 178) ∧ Pj w1' B xs s len K j wr) (fun _ _ i _ => K - (intOf i).toNat)
  case atStart => exact ⟨0, 161, by omega, rfl, rfl, rfl, hP⟩
  case round =>
    obtain ⟨j, k, hj, rfl, rfl, hk, hP⟩ := hrel
    by_cases hlt : j < K
    · have hlti : (j : Int) < (K : Int) := by omega
      obtain ⟨v, hb1, hv⟩ := hP.b1
      obtain rfl := hv hlt
      go_wp2_with fail
      refine (cut1_any (B + 2) (B + 1) 32 (32 * (K - j)) (32 * (K - j)) (some ⟨B, len + 32 * j, none⟩) wr (Nat.le_refl _) (by unfold maxLen; omega) (by omega) hP.b2.cell hb1.cell hb1.free).mono ?_
      rintro e w5 ⟨rfl, hw5⟩
      rw [Nat.min_eq_left (by omega)] at hw5 ⊢
      rw [sliced_at _ _ 0 _ _ (by omega), Nat.add_zero, Nat.sub_zero, Nat.sub_zero]
      have hrow5 : Row w5 B (laid xs s K j) := by rw [hw5]; exact hP.row.other (by omega)
      have hll : (laid xs s K j).length = len + 32 * K := by rw [laid_len _ _ _ _ hj, hx]
      have hc5 := hrow5.cell (len + 32 * j) (by omega)
      have hf5 := hrow5.free (len + 32 * j)
      generalize (laid xs s K j).getD (len + 32 * j) 0 = old at hc5
      obtain ⟨w6, hw6⟩ : ∃ w6, w6 = w5.setCell ⟨B, len + 32 * j, none⟩ (.int .u8 k) := ⟨_, rfl⟩
      obtain ⟨r1, r2, r3, ⟨a, c, r4, r5⟩, r6, r7, r8⟩ := hP.one hx hlt k w6 (by rw [hw6, hw5])
      have HC := hF (Pj.two (w3 := w6) hB.out.symm hx hlt hK31 k hk.out r1 r2 r3 a c r4 r5 r6 r7 r8)
      have hcl := hF (cut1_any (B + 4) (B + 3) 31 (s.length - 31 * j) c a w6.drew r5.2.1 r5.2.2.1 (by omega) (Box.cell (w := w6.drew) r6) (Box.cell (w := w6.drew) r4) (Box.free (w := w6.drew) r4))
      have hs1 := slice_l (P := Try.prog) 22 Try.underlying22 Try.size5 (some ⟨B, len + 32 * j, none⟩) 32 (32 * (K - j)) 1 (by omega)
      rw [sliced_at _ _ _ _ _ (by omega)] at hs1
      replace hs1 : ∀ u : World, (Instr.slice 22 (.slice (some ⟨B, len + 32 * j, none⟩) 32 (32 * (K - j))) (some (.int .i64 1)) none none).run Try.prog u = .ok (.slice (some ⟨B, len + 32 * j + 1, none⟩) 31 (32 * (K - j) - 1)) u := hs1
      replace hw6 := hF hw6
      clear r1 r2 r3 r4 r5 r6 r7 r8 hw5 hrow5 hP hb1 hll
      go_wp2
      rw [← hw6.out]
      clear hc5 hf5
      go_region_with (go_at_call 32; refine hcl.out.mono ?_; rintro e w7 ⟨rfl, hw7⟩; obtain ⟨a7, m7, w8, e7, hcp, hP2⟩ := HC.out w7 hw7; rw [e7]; clear hw7 e7)
      all_goals
        have hk2 : Hid ((178 : Int) = if j + 1 = 0 then 161 else 178) := by unfold Hid; rw [if_neg (by omega)]
        clear hcl HC hcp hs1
        go_wp2
        go_roundw
        case rel => exact ⟨j + 1, 178, by omega, by go_num, rfl, hk2, hP2⟩
        case measure => simp [intOf]; omega
    · have hlti : ¬ (j : Int) < (K : Int) := by omega
      obtain rfl : j = K := by omega
      have hrow := hP.row
      have hbel := hP.bel
      have hs1 := hbw.size
      have hB' := hB.out
      have e1 : laid xs s j j = xs ++ lay j 161 s := by simp [laid]
      rw [e1] at hrow
      have hlen2 : (xs ++ lay j 161 s).length = len + 32 * j := by simp [lay_len, hx]
      have hown := hrow.own (base := w.heap.size) (by omega) (by rw [hlen2]; unfold maxLen; omega)
      rw [hlen2] at hown
      have hfin : Below w.heap.size w wr := hbw.trans (hbel.mono (by omega))
      replace hown := hF hown
      clear hrow hP hbel e1 hlen2
      go_wp2
      go_ret2
      exact ⟨⟨_, by rw [hE.out]; rfl, by rw [hV.out]; exact hown.out⟩, hfin⟩
end Go.Proofs.Ytaibldodlbaknaa
