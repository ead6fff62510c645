/-
  How the document puts manifests.
-/
import Derived.Test.YteihabdldiopeaaE11
set_option linter.unusedVariables false
set_option linter.unusedSimpArgs false
namespace Go.Proofs.Yteihabdldiopeaa
open Go.RowKit Go.Maps

section
variable {w : World} {ao : Option Addr} {len cap : Nat}
set_option maxRecDepth 100000
set_option maxHeartbeats 4000000

theorem RPutManifest_any {ps : List Pr} (t lg : Int) (hs : Seq 3 Pr.cells w ao len cap ps) :
    Calls Try.prog 22 #[.agg #[.int .i64 t, .int .i64 lg, .slice ao len cap]] w fun e w' => ∃ v', e = .returned (.tuple #[v', .int .i64 (er (rightM ⟨t, lg, ps⟩))]) ∧ Own w' w.heap.size v' (bt (rightM ⟨t, lg, ps⟩) (mb ⟨t, lg, ps⟩)) ∧ Below w.heap.size w w' := by
  have hA : Below w.heap.size w (w.alloc (.cells #[.int .i64 t, .int .i64 lg, .slice ao len cap] 44)) := (Below.refl _ _).alloc (Nat.le_refl _) _
  have hz : (w.alloc (.cells #[.int .i64 t, .int .i64 lg, .slice ao len cap] 44)).heap.size = w.heap.size + 1 := by simp
  have hright := refRightManifest_any t lg (hs.keep hA)
  have hx := hs.1
  cases hr : rightM ⟨t, lg, ps⟩ with
  | false =>
    go_enter Try.func22, Try.ntmps22
    go_wp2_with fail
    refine hright.mono ?_
    rintro e w1 ⟨rfl, hb1⟩
    rw [hr]
    have hB1 : Below w.heap.size w w1 := hA.trans (hb1.mono (by omega))
    clear hright
    go_wp2
    go_ret2
    exact ⟨_, rfl, World.ownsRow_nil _ _ _ _, hB1⟩
  | true =>
    have hr2 := hr
    simp only [rightM, isT, isN, Bool.and_eq_true, decide_eq_true_eq] at hr2
    obtain ⟨⟨⟨⟨ht0, ht1⟩, hn0, hn1⟩, hlen⟩, hup⟩ := hr2
    rw [hx] at hlen
    have hokw := upP_mem ps [] t 0 hup (by omega) ht1
    have hel := enc_len t
    have hel2 := enc_len ps.length
    have hel3 := enc_len lg
    have hle64 : (len : Int) ≤ 64 := by omega
    have HR := hide3 hright
    have HOK := hide3 hokw
    have HS := hide3 hs
    have xb : (w.alloc (.cells #[.int .i64 t, .int .i64 lg, .slice ao len cap] 44)).heap[w.heap.size]? = some (.cells #[.int .i64 t, .int .i64 lg, .slice ao len cap] 44 (0, 0)) := heap_alloc_new w _
    clear hright hokw hs hup
    go_enter Try.func22, Try.ntmps22
    go_wp2_with fail
    refine HR.out.mono ?_
    rintro e w1 ⟨rfl, hb1⟩
    rw [hr]
    generalize (w.alloc (.cells #[.int .i64 t, .int .i64 lg, .slice ao len cap] 44)) = W0 at hA hz xb hb1
    rw [hz] at hb1
    have hs1 := hb1.size
    have xb1 := (hb1.block w.heap.size (by omega)).trans xb
    have xb1' := (blk_alloc' w1 (.cells #[.int .u8 77] 5) w.heap.size (by omega)).trans xb1
    have hB1 : Below (w.heap.size + 1) W0 (w1.alloc (.cells #[.int .u8 77] 5)) := hb1.alloc (by omega) _
    have ob1 := ob_byte w1 77 (by omega)
    have d10 : (w1.alloc (.cells #[.int .u8 77] 5)).cell? ⟨w.heap.size, 0, none⟩ = some (.int .i64 t) := by rw [Go.Joins.cell_of_block xb1']; rfl
    have HN := hide3 (refNum_any t ob1 ht0 (by omega))
    clear HR
    go_wp2_with fail
    refine HN.out.mono ?_
    rintro e w2 ⟨v2, rfl, ho2, hb2⟩
    have hal := (Below.refl w1.heap.size w1).alloc (Nat.le_refl _) (.cells #[.int .u8 77] 5)
    have hzz := hal.size
    have hs2 := hb2.size
    have hB2 : Below (w.heap.size + 1) W0 w2 := hB1.trans (hb2.mono (by omega))
    have xb2 := (hB2.block w.heap.size (by omega)).trans xb
    have d21 : w2.cell? ⟨w.heap.size, 1, none⟩ = some (.int .i64 lg) := by rw [Go.Joins.cell_of_block xb2]; rfl
    have ob2 : Ob w2 _ v2 _ := ⟨ho2, ob1.b.append (enc_byt t ht0), by simp; omega⟩
    have HN1 := hide3 (refNum_any lg ob2 (by omega) (by omega))
    clear HN
    go_wp2_with fail
    refine HN1.out.mono ?_
    rintro e w4 ⟨v4, rfl, ho4, hb4⟩
    have hs4 := hb4.size
    have hB4 : Below (w.heap.size + 1) W0 w4 := hB2.trans (hb4.mono (by omega))
    have xb4 := (hB4.block w.heap.size (by omega)).trans xb
    have d42 : w4.cell? ⟨w.heap.size, 2, none⟩ = some (.slice ao len cap) := by rw [Go.Joins.cell_of_block xb4]; rfl
    have ob4 : Ob w4 _ v4 _ := ⟨ho4, ob2.b.append (enc_byt lg (by omega)), by simp; omega⟩
    have HN2 := hide3 (refNum_any (len : Int) ob4 (by omega) (by omega))
    clear HN1
    go_wp2_with fail
    refine HN2.out.mono ?_
    rintro e w3 ⟨v3, rfl, ho3, hb3⟩
    have hB3 : Below (w.heap.size + 1) W0 w3 := hB4.trans (hb3.mono (by omega))
    have ho3' := hide3 (show Own w3 (w.heap.size + 1) v3 (77 :: (enc t ++ (enc lg ++ (enc ps.length ++ (ps.take 0).flatMap pb)))) from by
      have := ho3.low (base' := w.heap.size + 1) (by omega)
      rw [hx]
      simpa [List.append_assoc] using this)
    clear HN2 ho3 ho2 ho4 hb3 hb2 hb4 hB1 hB2 hB4 ob1 ob2 ob4 d10 d21 d42 xb1 xb1' xb2 xb4 hb1 hal
    go_wp2_with fail
    go_loopw [5, 6] (fun a i wr => ∃ (k : Nat) (va : Value), k ≤ len ∧ i = .int .i64 k ∧ a = va ∧ Own wr (w.heap.size + 1) va (77 :: (enc t ++ (enc lg ++ (enc ps.length ++ (ps.take k).flatMap pb)))) ∧ Below (w.heap.size + 1) W0 wr) (fun _ i _ => len - (intOf i).toNat)
    case atStart => exact ⟨0, _, by omega, rfl, rfl, ho3'.out, hB3⟩
    case round =>
      obtain ⟨k, va, hk, rfl, hva, ho, hB⟩ := hrel
      replace hva := hva.symm
      subst hva
      have hsz := hB.size
      have xbr := (hB.block w.heap.size (by omega)).trans xb
      have b1 : wr.cell? ⟨w.heap.size, 2, none⟩ = some (.slice ao len cap) := by rw [Go.Joins.cell_of_block xbr]; rfl
      have hBw : Below w.heap.size w wr := hA.trans (hB.mono (by omega))
      by_cases hkl : k < len
      case neg =>
        have hki : ¬ (k : Int) < (len : Int) := by omega
        have hoF := hide3 (show Own wr w.heap.size va (bt true (mb ⟨t, lg, ps⟩)) from by
          have := ho.low (base' := w.heap.size) (by omega)
          rwa [List.take_of_length_le (by omega)] at this)
        clear ho
        go_wp2
        go_ret2
        exact ⟨_, rfl, hoF.out, hBw⟩
      obtain ⟨x, hxk⟩ : ∃ x, ps[k]? = some x := ⟨ps[k], List.getElem?_eq_getElem (by omega)⟩
      have hokx := HOK.out x (List.mem_of_getElem? hxk)
      obtain ⟨b, off, rfl, hbl, hcell⟩ := HS.out.three (by omega)
      obtain ⟨r0, r1, r2⟩ := hcell k x _ _ _ hxk rfl
      have s0 := (hBw.cell (p := ⟨b, off + k * 3, none⟩) hbl).trans r0
      have hki : (k : Int) < (len : Int) := by omega
      have hbA : Byt (77 :: (enc t ++ (enc lg ++ (enc ps.length ++ (ps.take k).flatMap pb)))) := Byt.cons (by omega) ((enc_byt t ht0).append ((enc_byt lg (by omega)).append ((enc_byt _ (by omega)).append (flat_byt pb _ (fun y hy => pb_byt y (HOK.out y (List.mem_of_mem_take hy)))))))
      have hlA : (77 :: (enc t ++ (enc lg ++ (enc ps.length ++ (ps.take k).flatMap pb)))).length ≤ 800000 := by
        have := flat_len pb (ps.take k) 30 (fun y hy => pb_len y)
        rw [List.length_take] at this
        simp only [List.length_cons, List.length_append]
        omega
      have hflat := take_flat pb hxk
      obtain ⟨f0, f1, f2⟩ := x
      obtain ⟨⟨hp0, hp1⟩, ⟨hp2, hp3⟩, ⟨hp4, hp5⟩⟩ := hokx
      simp only [] at s0 r1 r2 hp0 hp1 hp2 hp3 hp4 hp5
      have he0 := enc_len f0
      have he1 := enc_len f1
      have he2 := enc_len f2
      have obA : Ob wr _ va _ := ⟨ho, hbA, by omega⟩
      have HA := hide3 (refNum_any f0 obA hp0 (by omega))
      have R1 := hide3 r1
      have R2 := hide3 r2
      clear hcell r0 r1 r2 hxk HOK HS ho
      go_wp2_with fail
      refine HA.out.mono ?_
      rintro e u1 ⟨x1, rfl, o1, c1⟩
      have hu1 := c1.size
      have U1 : Below (w.heap.size + 1) W0 u1 := hB.trans (c1.mono (by omega))
      have b11 : u1.cell? ⟨w.heap.size, 2, none⟩ = some (.slice (some ⟨b, off, none⟩) len cap) := (c1.cell (p := ⟨w.heap.size, 2, none⟩) (by simp only []; omega)).trans b1
      have s11 := (hA.trans (U1.mono (by omega))).cell (p := ⟨b, off + k * 3 + 1, none⟩) hbl
      rw [R1.out] at s11
      have ob1 : Ob u1 _ x1 _ := ⟨o1, hbA.append (enc_byt f0 hp0), by rw [List.length_append]; omega⟩
      have HA1 := hide3 (refNum_any f1 ob1 hp2 (by omega))
      clear HA b1 s0
      go_wp2_with fail
      refine HA1.out.mono ?_
      rintro e u2 ⟨x2, rfl, o2, c2⟩
      have hu2 := c2.size
      have U2 : Below (w.heap.size + 1) W0 u2 := U1.trans (c2.mono (by omega))
      have b12 : u2.cell? ⟨w.heap.size, 2, none⟩ = some (.slice (some ⟨b, off, none⟩) len cap) := (c2.cell (p := ⟨w.heap.size, 2, none⟩) (by simp only []; omega)).trans b11
      have s12 := (hA.trans (U2.mono (by omega))).cell (p := ⟨b, off + k * 3 + 2, none⟩) hbl
      rw [R2.out] at s12
      have ob2 : Ob u2 _ x2 _ := ⟨o2, ob1.b.append (enc_byt f1 hp2), by rw [List.length_append, List.length_append]; omega⟩
      have HA2 := hide3 (refNum_any f2 ob2 hp4 (by omega))
      clear HA1 b11 s11
      go_wp2_with fail
      refine HA2.out.mono ?_
      rintro e u3 ⟨x3, rfl, o3, c3⟩
      have U3 : Below (w.heap.size + 1) W0 u3 := U2.trans (c3.mono (by omega))
      have hoN := hide3 (show Own u3 (w.heap.size + 1) x3 (77 :: (enc t ++ (enc lg ++ (enc ps.length ++ (ps.take (k + 1)).flatMap pb)))) from by
        rw [hflat]
        have := o3.low (base' := w.heap.size + 1) (by omega)
        simpa [pb, List.append_assoc] using this)
      clear HA2 b12 s12 o1 o2 o3 c1 c2 c3 ob1 ob2 obA
      go_wp2
      go_roundw
      case rel => exact ⟨k + 1, x3, by omega, by go_num, rfl, hoN.out, U3⟩
      case measure => simp [intOf]; omega
end
end Go.Proofs.Yteihabdldiopeaa
