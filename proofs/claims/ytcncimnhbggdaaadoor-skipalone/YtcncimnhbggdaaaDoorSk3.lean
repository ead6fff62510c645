/-
  SkipAlone. (Printed by gen_sk3.py.)
-/
import Derived.Test.YtcncimnhbggdaaaDoorSk2
set_option linter.unusedVariables false
set_option linter.unusedSimpArgs false
namespace Go.Proofs.YtcncimnhbggdaaaDoor
open Go.RowKit Go.Maps Go.Sort

theorem infoAsk : (Tryd.prog.info? 33).map (fun i => (i.zero, i.size, i.bytes)) = some (some (.agg #[.int .i64 0, .int .i64 0, .string .empty, .int .i64 0, .int .i64 0]), 5, 48) := by kernel_rfl
/-- A list, and what was put in, as asks in a row. -/
structure Lq (w wr : World) (lb d z M : Nat) (K : Nat → Prop) (s : Sl) (ins : List AskR) (v : Value) : Prop where
  ht : LT wr K lb d z M s
  sp : s.sp = []
  row : Ar wr w.heap.size v ins
  kb : ∀ j, K j → w.heap.size ≤ j
  vk : ∀ j, v.ownBlock = some j → ¬ K j
  bl : Below w.heap.size w wr
  b0 : 0 < w.heap.size
section
variable {w wr w' : World} {lb d z M : Nat} {K : Nat → Prop} {s s' : Sl} {ins : List AskR} {v : Value}
theorem Lq.up {M' : Nat} (h : Lq w wr lb d z M K s ins v) (hM : M ≤ M') : Lq w wr lb d z M' K s ins v := ⟨h.ht.up hM, h.sp, h.row, h.kb, h.vk, h.bl, h.b0⟩
theorem Lq.below (h : Lq w wr lb d z M K s ins v) (hb : Below wr.heap.size wr w') : Lq w w' lb d z M K s ins v :=
  ⟨h.ht.below hb, h.sp, hrow_fr h.row (Fr.below (F := fun _ => False) hb) (fun _ _ => id), h.kb, h.vk, h.bl.trans ⟨hb.os, hb.tape, hb.output, hb.size, fun j hj => hb.block j (by have := h.bl.size; omega)⟩, h.b0⟩
theorem Lq.went {ob M' : Nat} {K' : Nat → Prop} (h : Lq w wr lb d z M K s ins v) (hH : LT w' K' lb d z M' s') (hsp : s'.sp = []) (hK : ∀ j, j < wr.heap.size → (K' j ↔ K j)) (hF : Fr (fun j => K j ∨ j = ob) wr w') (h2 : v.ownBlock ≠ some ob) (h3 : w.heap.size ≤ ob) : Lq w w' lb d z M' K' s' ins v := by
  have hs := h.bl.size
  refine ⟨hH, hsp, hrow_fr h.row hF (fun j e q => ?_), fun j hj => ?_, fun j e q => ?_, h.bl.trans (hF.to (fun j hj e => ?_) hs), h.b0⟩
  · rcases q with q | q
    · exact h.vk j e q
    · exact h2 (q ▸ e)
  · rcases Nat.lt_or_ge j wr.heap.size with q | q
    · exact h.kb j ((hK j q).1 hj)
    · omega
  · have := (World.ownsRow.lt h.row j e).2
    exact h.vk j e ((hK j this).1 q)
  · rcases e with e | e
    · have := h.kb j e; omega
    · omega
theorem Lq.rowed {v2 : Value} {ins2 : List AskR} (h : Lq w wr lb d z M K s ins v) (hF : Fr (fun j => v.ownBlock = some j) wr w') (hr2 : Ar w' w.heap.size v2 ins2) (hv2 : ∀ j, v2.ownBlock = some j → v.ownBlock = some j ∨ wr.heap.size ≤ j) : Lq w w' lb d z M K s ins2 v2 := by
  have hv0 : v.ownBlock ≠ some 0 := fun e => by
    have := (World.ownsRow.lt h.row 0 e).1
    have := h.b0
    omega
  refine ⟨h.ht.keep hF (fun j hj e => h.vk j e hj) hv0, h.sp, hr2, h.kb, fun j e q => ?_, h.bl.trans (hF.to (fun j hj e => ?_) h.bl.size), h.b0⟩
  · rcases hv2 j e with q2 | q2
    · exact h.vk j q2 q
    · have := h.ht.kl j q; omega
  · have := (World.ownsRow.lt h.row j e).1
    omega
end
theorem ask_new (w : World) (x : AskR) : ∀ j u, x.cells[j]? = some u → (w.alloc (.cells #[.int .i64 x.w, .int .i64 x.kind, .string x.key, .int .i64 x.ref, .int .i64 x.h] 33)).cell? ((⟨w.heap.size, 0, none⟩ : Addr).add j) = some u := by
  intro j u h
  have hb : (w.alloc (.cells #[.int .i64 x.w, .int .i64 x.kind, .string x.key, .int .i64 x.ref, .int .i64 x.h] 33)).heap[w.heap.size]? = some (.cells #[.int .i64 x.w, .int .i64 x.kind, .string x.key, .int .i64 x.ref, .int .i64 x.h] 33 (0, 0)) := heap_alloc_new w _
  rw [addr_add, Go.Joins.cell_of_block hb, ← Array.getElem?_toList]
  simpa [AskR.cells] using h
/-- What an ask's variable holds. -/
def Xv (w : World) (b : Nat) (x : AskR) : Prop := w.heap[b]? = some (.cells #[.int .i64 x.w, .int .i64 x.kind, .string x.key, .int .i64 x.ref, .int .i64 x.h] 33 (0, 0))
theorem Xv.cells {w : World} {b : Nat} {x : AskR} (h : Xv w b x) : w.cell? ⟨b, 0, none⟩ = some (.int .i64 x.w) ∧ w.cell? ⟨b, 1, none⟩ = some (.int .i64 x.kind) ∧ w.cell? ⟨b, 2, none⟩ = some (.string x.key) ∧ w.cell? ⟨b, 3, none⟩ = some (.int .i64 x.ref) ∧ w.cell? ⟨b, 4, none⟩ = some (.int .i64 x.h) := by
  unfold Xv at h
  refine ⟨?_, ?_, ?_, ?_, ?_⟩ <;> (rw [Go.Joins.cell_of_block h]; rfl)
theorem opA_st (x : AskR) : (opA x).st ≠ 5 := by
  unfold opA
  have h1 : (1 : Nat) ≠ 5 := by decide
  have h0 : (0 : Nat) ≠ 5 := by decide
  split
  · split
    · exact h1
    · exact h0
  · split
    · split
      · exact h1
      · exact h0
    · exact h1
theorem blw_list {a b : ByteArray} : Blw a b ↔ a.toList < b.toList := by
  unfold Blw bl
  rw [ByteArray.toList_eq, ByteArray.toList_eq]

theorem inn_nodup {s : Sl} {ins : List AskR} (h : Inn s ins) (hok : s.ok) : (ins.map fun a => a.key.data.toList).Nodup := by
  rw [List.Nodup, List.pairwise_iff_getElem]
  intro i j hi hj hij e
  rw [List.length_map] at hi hj
  rw [List.getElem_map, List.getElem_map] at e
  have e2 : (ins[i]'hi).key = (ins[j]'hj).key := ByteArray.ext (Array.ext' e)
  have := h.one hok (List.getElem?_eq_getElem hi) (List.getElem?_eq_getElem hj) e2
  omega

section
variable {w : World}
set_option maxRecDepth 100000 in
set_option maxHeartbeats 8000000 in
theorem alone_ok (size : Nat) {ao : Option Addr} {len cap : Nat} {xs : List AskR} (hT : Tab w) (h1 : 8 ≤ size) (h2 : size ≤ 65536) (hs : Seq 5 AskR.cells w ao len cap xs) (hok : ∀ x ∈ xs, x.ok) :
    Calls Tryd.prog 3 #[.int .i64 (size : Int), .slice ao len cap] w fun e w' => e = .returned (.bool true) ∧ Below w.heap.size w w' := by
  obtain ⟨i0, hi0, z0, z1, z2⟩ := info_parts infoAsk
  have hcap := hs.2.1
  have hmax := hs.2.2.1
  unfold maxLen at hmax
  have HS := hide2 (shown_any hT)
  have HT0 := hide2 hT
  have hw0 := hT.1
  have HSQ := hide2 hs
  have HOK := hide2 hok
  clear hT hs hok
  go_enter Tryd.func3, Tryd.ntmps3
  go_wp2_with fail
  refine HS.out.mono ?_
  rintro e w1 ⟨rfl, hb1⟩
  have HM := hide2 (New_any size w1 (by omega) h2)
  have HB1 := hide2 hb1
  have hs1 := hb1.size
  have HT1 := hide2 (HT0.out.below hb1 hw0)
  clear HS hb1
  go_wp2_with fail
  refine HM.out.mono ?_
  rintro e w2 ⟨rfl, ⟨F, hA⟩, hb2⟩
  rw [← up_zero] at hA
  have HN := hide2 (new_any hA (HT1.out.below hb2 HT1.out.1) (by omega) (by have := HT1.out.1; omega) h1)
  have HB2 : Hid (Below w.heap.size w w2) := hide2 (below_up HB1.out hs1 hb2)
  have hs2 := hb2.size
  clear HM hA hb2
  go_wp2_with fail
  refine HN.out.mono ?_
  rintro e w3 ⟨lb, K, gt, F', rfl, hL, hK, hF⟩
  obtain ⟨d, hd⟩ : ∃ d, d = w1.heap.size + 1 := ⟨_, rfl⟩
  rw [← hd] at hL ⊢
  have hl : LT w3 K lb d size 0 s0 := ⟨_, _, _, _, _, _, _, _, hL, s0_ok, s0_cw size h1, by simp, by decide, by decide⟩
  have HL : Hid (Lq w w3 lb d size 0 K s0 [] (.slice none 0 0)) := hide2 ⟨hl, rfl, ⟨rfl, .inl ⟨rfl, rfl⟩⟩, fun j hj => by have := hK j hj; omega, fun j e => (by cases e), HB2.out.trans (hF.to (fun j hj e => by omega) (by omega)), hw0⟩
  clear HN hL hK hF hl hd
  go_wp2
  go_loopw [10, 11, 12] (fun v u i wr => ∃ (n : Nat) (K : Nat → Prop) (s : Sl) (ins : List AskR), n ≤ len ∧ n ≤ 1000 ∧ i = .int .i64 n ∧ u = .int .i64 (s.cells.length : Nat) ∧ ins.length ≤ n ∧ Hid (Inn s ins) ∧ Hid (Lq w wr lb d size (n * 5000) K s ins v)) (fun _ _ i _ => 1000 - (intOf i).toNat)
  case atStart => exact ⟨0, K, s0, [], by omega, by omega, rfl, by rw [s0_cells]; rfl, Nat.zero_le _, hide2 Inn.start, HL⟩
  case round =>
    obtain ⟨n, K, s, ins, hn1, hn2, rfl, rfl, hin, II, L⟩ := hrel
    obtain ⟨vo, vc, ev, hseq⟩ := L.out.row.seq
    subst ev
    by_cases hlt : n < len ∧ n < 1000
    · obtain ⟨g1, g2⟩ := hlt
      have d1 : decide ((n : Int) < (len : Int)) = true := by simp; omega
      have d2 : decide ((n : Int) < 1000) = true := by simp; omega
      obtain ⟨b, off, rfl, hbl, hcell⟩ := HSQ.out.2.2.2 (by omega)
      obtain ⟨x, hx⟩ := some_at HSQ.out.1 g1
      have hxok := HOK.out x (List.mem_of_getElem? hx)
      have hcb := fun p (hp : p.block < w.heap.size) => L.out.bl.cell (p := p) hp
      have q0 : wr.cell? ⟨b, off + n * 5, none⟩ = some (.int .i64 x.w) := (hcb _ hbl).trans (by have := hcell n x hx 0 _ rfl; simpa using this)
      have q1 : wr.cell? ⟨b, off + n * 5 + 1, none⟩ = some (.int .i64 x.kind) := (hcb _ hbl).trans (hcell n x hx 1 _ rfl)
      have q2 : wr.cell? ⟨b, off + n * 5 + 2, none⟩ = some (.string x.key) := (hcb _ hbl).trans (hcell n x hx 2 _ rfl)
      have q3 : wr.cell? ⟨b, off + n * 5 + 3, none⟩ = some (.int .i64 x.ref) := (hcb _ hbl).trans (hcell n x hx 3 _ rfl)
      have q4 : wr.cell? ⟨b, off + n * 5 + 4, none⟩ = some (.int .i64 x.h) := (hcb _ hbl).trans (hcell n x hx 4 _ rfl)
      obtain ⟨wa, hwa⟩ : ∃ y, y = wr.alloc (.cells #[.int .i64 x.w, .int .i64 x.kind, .string x.key, .int .i64 x.ref, .int .i64 x.h] 33) := ⟨_, rfl⟩
      have hba : Below wr.heap.size wr wa := by rw [hwa]; exact (Below.refl _ _).alloc (Nat.le_refl _) _
      have hsa : wa.heap.size = wr.heap.size + 1 := by rw [hwa]; simp
      have hna : Xv wa wr.heap.size x := by rw [hwa]; exact heap_alloc_new wr _
      have LA := L.out.below hba
      have HBG := hide2 (LA.ht.begun x hxok)
      have HPK := hide2 (pick_any x.kind hxok.2.1 3 (by decide) (by decide) wa)
      have zz1 := heap_alloc_new wr (.cells #[.int .i64 0, .int .i64 0, .string .empty, .int .i64 0, .int .i64 0] 33)
      have zy0 : (wr.alloc (.cells #[.int .i64 0, .int .i64 0, .string .empty, .int .i64 0, .int .i64 0] 33)).cell? ⟨wr.heap.size, 0, none⟩ = some (.int .i64 0) := by rw [Go.Joins.cell_of_block zz1]; rfl
      have zf0 := Go.Joins.unfrozen_of_block zz1 0
      have zy1 : (wr.alloc (.cells #[.int .i64 0, .int .i64 0, .string .empty, .int .i64 0, .int .i64 0] 33)).cell? ⟨wr.heap.size, 1, none⟩ = some (.int .i64 0) := by rw [Go.Joins.cell_of_block zz1]; rfl
      have zf1 := Go.Joins.unfrozen_of_block zz1 1
      have zy2 : (wr.alloc (.cells #[.int .i64 0, .int .i64 0, .string .empty, .int .i64 0, .int .i64 0] 33)).cell? ⟨wr.heap.size, 2, none⟩ = some (.string .empty) := by rw [Go.Joins.cell_of_block zz1]; rfl
      have zf2 := Go.Joins.unfrozen_of_block zz1 2
      have zy3 : (wr.alloc (.cells #[.int .i64 0, .int .i64 0, .string .empty, .int .i64 0, .int .i64 0] 33)).cell? ⟨wr.heap.size, 3, none⟩ = some (.int .i64 0) := by rw [Go.Joins.cell_of_block zz1]; rfl
      have zf3 := Go.Joins.unfrozen_of_block zz1 3
      have zy4 : (wr.alloc (.cells #[.int .i64 0, .int .i64 0, .string .empty, .int .i64 0, .int .i64 0] 33)).cell? ⟨wr.heap.size, 4, none⟩ = some (.int .i64 0) := by rw [Go.Joins.cell_of_block zz1]; rfl
      have zf4 := Go.Joins.unfrozen_of_block zz1 4
      obtain ⟨m0, m1, m2, m3, m4⟩ := hna.cells
      have HLA := hide2 LA
      have HKW := hide2 L.out.ht.kl
      have hwwr : w.heap.size ≤ wr.heap.size := L.out.bl.size
      have HNA := hide2 hna
      have HSA := hide2 hsa
      have hpk3 := pk_lt x.kind (n := 3) (by decide)
      obtain ⟨P, hP⟩ : ∃ P, P = pk x.kind 3 := ⟨_, rfl⟩
      rw [← hP] at HPK hpk3
      have HP := hide2 hP
      obtain ⟨used, hused⟩ : ∃ u, u = s.cells.length := ⟨_, rfl⟩
      rw [← hused]
      have HU0 := hide2 hused
      have hcz : used ≤ size := by rw [hused]; exact L.out.ht.le
      have hxv : (Value.slice vo ins.length vc).ownBlock ≠ some wr.heap.size := fun e => Nat.lt_irrefl _ (World.ownsRow.lt L.out.row _ e).2
      clear hcell LA hba hna hsa zz1 hcb L hseq hP hused
      go_wp2_with fail
      rw [← hwa]
      clear hwa zy0 zy1 zy2 zy3 zy4 zf0 zf1 zf2 zf3 zf4 q0 q1 q2 q3 q4
      refine HPK.out.mono ?_
      rintro e wp ⟨rfl, qp⟩
      subst qp
      go_wp2_with fail
      clear m0 m1 m2 m3 m4 HPK
      refine HBG.out.mono ?_
      rintro e w3 ⟨rfl, ho3, hb3⟩
      have L3 := HLA.out.below hb3
      have hsz3 := hb3.size
      have hsa := HSA.out
      have hxv3 : Xv w3 wr.heap.size x := (hb3.block _ (by omega)).trans HNA.out
      have hKa := HLA.out.ht.kl
      have hvb : ∀ j, (Value.slice vo ins.length vc).ownBlock = some j → j < wp.heap.size := fun j e => (World.ownsRow.lt HLA.out.row j e).2
      obtain ⟨ob, hob⟩ : ∃ y, y = wp.heap.size + 1 := ⟨_, rfl⟩
      rw [← hob] at ho3 ⊢
      have hobK : ¬ K ob := fun e => by have := hKa ob e; omega
      have hobv : (Value.slice vo ins.length vc).ownBlock ≠ some ob := fun e => by have := hvb ob e; omega
      have hobw : w.heap.size ≤ ob := by omega
      have hobx : wr.heap.size ≠ ob := by omega
      have hxK : ¬ K wr.heap.size := fun e => by have := HKW.out _ e; omega
      have hob1 : ob ≠ 0 := by omega
      have HRE := hide2 (ref_early ho3 (opA_st x))
      have hil : ins.length ≤ 1000 := by omega
      have emost : ((32 + 2 * ins.length : Nat) : Int) = 32 + 2 * (ins.length : Int) := by omega
      have hdn := done_ask L3.ht L3.sp II.out ho3 hobK hob1 hil (by omega)
      rw [emost] at hdn
      have HD := hide2 hdn
      have HL3 := hide2 L3
      have HX3 := hide2 hxv3
      clear HBG HLA HNA HSA ho3 hb3 L3 hxv3 hKa hvb hob hsa hsz3 hdn emost
      go_wp2_with fail
      refine HRE.out.mono ?_
      rintro e w3' ⟨rfl, q3'⟩
      subst q3'
      clear HRE
      go_wp2_with fail
      refine HD.out.mono ?_
      rintro e w4 ⟨n4, s4, o4, K4, cv4, rfl, hn4, hst4, hsp4, hvd, h4, ho4, k4, hK4, hF4⟩
      have d9 : ¬ ((n4 : Int) < 0) := by omega
      have d10 : decide ((n4 : Int) < 0) = false := by simp
      have L4 := HL3.out.went h4 hsp4 hK4 hF4 hobv hobw
      have x4 : Xv w4 wr.heap.size x := (hF4.block _ (Array.getElem?_eq_some_iff.1 HX3.out).1 (by rintro (e | e); exact hxK e; exact hobx e)).trans HX3.out
      have hfk : o4.fk.size ≤ 16 := by
        rcases hvd with v | v | v | v | v | v | v
        · obtain ⟨_, _, j, a, ha, e, _⟩ := v
          obtain ⟨b1, b2, _⟩ := II.out.at ha
          rw [e, ← b2]; exact good_le HL3.out.ht.ok b1
        · rw [v.2.2.1]; decide
        · rw [v.2.2.2.1]; decide
        · obtain ⟨_, hg, _, j, a, _, _, e, _⟩ := v
          rw [e]; exact (good_size hg).2
        · rw [v.2.2.2.1]; decide
        · rw [v.2.2.2.1]; decide
        · rw [v.2.2.2.1]; exact (good_size v.2.1).2
      have HR := hide2 (ref_done ho4 hst4 hfk)
      have HL4 := hide2 L4
      have HX4 := hide2 x4
      have HO4 := hide2 ho4
      have HST4 := hide2 hst4
      have HVD := hide2 hvd
      clear HD ho4 hF4 L4 x4 hst4 hK4 hvd h4 hsp4 hfk HX3
      go_wp2_with fail
      refine HR.out.mono ?_
      rintro e w5 ⟨rfl, hb5⟩
      have L5 := HL4.out.below hb5
      have x5 : Xv w5 wr.heap.size x := (hb5.block _ (Array.getElem?_eq_some_iff.1 HX4.out).1).trans HX4.out
      have o5 := HO4.out.same (hb5.block _ HO4.out.lt)
      obtain ⟨m0, m1, m2, m3, m4⟩ := x5.cells
      obtain ⟨vo5, vc5, ev5, hseq5⟩ := L5.row.seq
      simp only [Value.slice.injEq, true_and] at ev5
      obtain ⟨rfl, rfl⟩ := ev5
      have HFD := hide2 (find_any hseq5 x.key)
      have HLS := hide2 (lst_any hseq5 x.key)
      have HSQ5 := hide2 hseq5
      have HL5 := hide2 L5
      have HX5 := hide2 x5
      have HO5 := hide2 o5
      clear HR HL4 HX4 HO4 hb5 L5 x5 o5 hseq5
      go_wp2_with fail
      refine HFD.out.mono ?_
      rintro e w6 ⟨⟨r1, rfl, hr1⟩, q6⟩
      subst q6
      have HR1 := hide2 hr1
      clear HFD hr1
      go_wp2_with fail
      refine HLS.out.mono ?_
      rintro e w7 ⟨⟨r2, rfl, hr2⟩, q, hw7⟩
      have HR2 := hide2 hr2
      have L7 := HL5.out.below (w' := w7) (by rw [hw7]; exact below_drewN _ _ _)
      have x7 : Xv w7 wr.heap.size x := by rw [hw7]; exact HX5.out
      have o7 : Om w7 ob (lpp lb) cv4 o4 := by rw [hw7]; exact HO5.out
      have hseq7 : Seq 5 AskR.cells w7 vo ins.length vc ins := by rw [hw7]; exact HSQ5.out.keep (below_drewN _ _ _)
      obtain ⟨m0, m1, m2, m3, m4⟩ := x7.cells
      have HIK := hide2 (isKey_any x.key hxok.2.2.1 w7)
      have HSQ7 := hide2 hseq7
      have HL7 := hide2 L7
      have HX7 := hide2 x7
      have HO7 := hide2 o7
      clear HLS hr2 hw7 L7 x7 o7 hseq7 HL5 HX5 HO5 HSQ5
      go_wp2_with fail
      refine HIK.out.mono ?_
      rintro e w8 ⟨rfl, q8⟩
      subst q8
      clear HIK
      have HSTEP := hide2 (ostep_done HO7.out HST4.out)
      have HUS := hide2 HL7.out.ht.used
      rcases HVD.out with v | v | v | v | v | v | v
      · as_aux_lemma =>
          obtain ⟨hp, hks, j, a, ha, e1, e2, e3, e4, hna1, hmin⟩ := v
          have hP2 : P = 2 := HP.out.trans hp
          subst hP2
          obtain ⟨i, c, hri, hci, hck, hcm⟩ : ∃ (i : Nat) (c : AskR), r2 = (i : Int) ∧ ins[i]? = some c ∧ ¬ c.key.toList < x.key.toList ∧ ∀ b ∈ ins, b.key.toList < x.key.toList ∨ ¬ b.key.toList < c.key.toList := by
            rcases HR2.out with ⟨-, h6⟩ | h6
            · exact absurd (blw_list.2 (h6 a (List.mem_of_getElem? ha))) hna1
            · exact h6
          have hcak : c.key = a.key := by
            have t1 : ¬ Blw a.key c.key := (hcm a (List.mem_of_getElem? ha)).elim (fun q => absurd (blw_list.2 q) hna1) (fun q h => q (blw_list.1 h))
            have t2 : ¬ Blw c.key a.key := (hmin c (List.mem_of_getElem? hci)).elim (fun q => absurd (blw_list.1 q) hck) id
            rcases Blw.tri c.key a.key with q | q | q
            · exact absurd q t2
            · exact q
            · exact absurd q t1
          have hca : c = a := by
            have hij := II.out.one HL3.out.ht.ok hci ha hcak
            rw [hij, ha] at hci
            exact (Option.some.inj hci).symm
          subst hca
          have hil2 : i < ins.length := (List.getElem?_eq_some_iff.1 hci).1
          obtain ⟨g9, off9, evo, hgl, hc9⟩ := HSQ7.out.2.2.2 (by omega)
          have qk : w8.cell? ⟨g9, off9 + i * 5 + 2, none⟩ = some (.string c.key) := hc9 i c hci 2 _ rfl
          have qr : w8.cell? ⟨g9, off9 + i * 5 + 3, none⟩ = some (.int .i64 c.ref) := hc9 i c hci 3 _ rfl
          have dd1 : decide ((0 : Int) ≤ (i : Int)) = true := by simp
          have dd2 : (i : Int) < (ins.length : Int) := by omega
          subst hri evo
          rw [e1, e2, e3, e4]
          clear hci hck hcm hcak hc9 hna1 hmin ha e1 e2 e3 e4 HR2 hp
          have hcc : s4.cells.length = used := by rw [HU0.out, cells_len, cells_len, hks, HL7.out.sp, HL3.out.sp]
          rw [hcc] at HUS
          have hI4 : Hid (Inn s4 ins) := hide2 (II.out.same hks)
          have HCC := hide2 hcc
          clear hcc hks HVD
          go_wp2_with fail
          refine HSTEP.out.mono ?_
          rintro e w9 ⟨rfl, q9⟩
          subst q9
          go_wp2_with fail
          refine HUS.out.mono ?_
          rintro e w10 ⟨rfl, q10⟩
          subst q10
          go_wp2
          go_roundw
          case rel => exact ⟨n + 1, K4, s4, ins, by omega, by omega, by go_num, by rw [HCC.out], by omega, hI4, hide2 (HL7.out.up (by omega))⟩
          case measure => simp [intOf]; omega
      · as_aux_lemma =>
          obtain ⟨hp, hks, e1, e2, e3, e4, hall⟩ := v
          have hP2 : P = 2 := HP.out.trans hp
          subst hP2
          have hr6 : r2 = -1 := by
            rcases HR2.out with h6 | ⟨i, c, h6, hci, hck, hcm⟩
            · exact h6.1
            · exact absurd (blw_list.1 (hall c (List.mem_of_getElem? hci))) hck
          subst hr6
          rw [e1, e2, e3, e4]
          clear hall e1 e2 e3 e4 HR2 hp
          have hcc : s4.cells.length = used := by rw [HU0.out, cells_len, cells_len, hks, HL7.out.sp, HL3.out.sp]
          rw [hcc] at HUS
          have hI4 : Hid (Inn s4 ins) := hide2 (II.out.same hks)
          have HCC := hide2 hcc
          clear hcc hks HVD
          go_wp2_with fail
          refine HSTEP.out.mono ?_
          rintro e w9 ⟨rfl, q9⟩
          subst q9
          go_wp2_with fail
          refine HUS.out.mono ?_
          rintro e w10 ⟨rfl, q10⟩
          subst q10
          go_wp2
          go_roundw
          case rel => exact ⟨n + 1, K4, s4, ins, by omega, by omega, by go_num, by rw [HCC.out], by omega, hI4, hide2 (HL7.out.up (by omega))⟩
          case measure => simp [intOf]; omega
      · as_aux_lemma =>
          obtain ⟨hp, hg, hks, e1, e2, e3, e4, e5⟩ := v
          subst e5
          rw [e1, e2, e3, e4, hg]
          clear e1 e2 e3 e4 HR2 HR1
          have hcc : s4.cells.length = used := by rw [HU0.out, cells_len, cells_len, hks, HL7.out.sp, HL3.out.sp]
          rw [hcc] at HUS
          have hI4 : Hid (Inn s4 ins) := hide2 (II.out.same hks)
          have HCC := hide2 hcc
          clear hcc hks HVD
          rcases (show P = 0 ∨ P = 1 by have := HP.out; omega) with hP2 | hP2
          · subst hP2
            clear hp
            go_wp2_with fail
            refine HSTEP.out.mono ?_
            rintro e w9 ⟨rfl, q9⟩
            subst q9
            go_wp2_with fail
            refine HUS.out.mono ?_
            rintro e w10 ⟨rfl, q10⟩
            subst q10
            go_wp2
            go_roundw
            case rel => exact ⟨n + 1, K4, s4, ins, by omega, by omega, by go_num, by rw [HCC.out], by omega, hI4, hide2 (HL7.out.up (by omega))⟩
            case measure => simp [intOf]; omega
          · subst hP2
            clear hp
            go_wp2_with fail
            refine HSTEP.out.mono ?_
            rintro e w9 ⟨rfl, q9⟩
            subst q9
            go_wp2_with fail
            refine HUS.out.mono ?_
            rintro e w10 ⟨rfl, q10⟩
            subst q10
            go_wp2
            go_roundw
            case rel => exact ⟨n + 1, K4, s4, ins, by omega, by omega, by go_num, by rw [HCC.out], by omega, hI4, hide2 (HL7.out.up (by omega))⟩
            case measure => simp [intOf]; omega
      · as_aux_lemma =>
          obtain ⟨hp, hg, hks, j, a, ha, hak, e1, e2, e3, e4⟩ := v
          obtain ⟨i, c, hri, hci, hck⟩ : ∃ (i : Nat) (c : AskR), r1 = (i : Int) ∧ ins[i]? = some c ∧ c.key = x.key := by
            rcases HR1.out with ⟨-, h6⟩ | h6
            · exact absurd hak (h6 a (List.mem_of_getElem? ha))
            · exact h6
          have hca : c = a := by
            have hij := II.out.one HL3.out.ht.ok hci ha (hck.trans hak.symm)
            rw [hij, ha] at hci
            exact (Option.some.inj hci).symm
          subst hca
          have hil2 : i < ins.length := (List.getElem?_eq_some_iff.1 hci).1
          obtain ⟨g9, off9, evo, hgl, hc9⟩ := HSQ7.out.2.2.2 (by omega)
          have qr : w8.cell? ⟨g9, off9 + i * 5 + 3, none⟩ = some (.int .i64 c.ref) := hc9 i c hci 3 _ rfl
          have dd1 : decide ((0 : Int) ≤ (i : Int)) = true := by simp
          have dd2 : (i : Int) < (ins.length : Int) := by omega
          subst hri evo
          rw [e1, e2, e3, e4, hg]
          clear hci hck hc9 ha hak e1 e2 e3 e4 HR1 HR2
          have hcc : s4.cells.length = used := by rw [HU0.out, cells_len, cells_len, hks, HL7.out.sp, HL3.out.sp]
          rw [hcc] at HUS
          have hI4 : Hid (Inn s4 ins) := hide2 (II.out.same hks)
          have HCC := hide2 hcc
          clear hcc hks HVD
          rcases (show P = 0 ∨ P = 1 by have := HP.out; omega) with hP2 | hP2
          · subst hP2
            clear hp
            go_wp2_with fail
            refine HSTEP.out.mono ?_
            rintro e w9 ⟨rfl, q9⟩
            subst q9
            go_wp2_with fail
            refine HUS.out.mono ?_
            rintro e w10 ⟨rfl, q10⟩
            subst q10
            go_wp2
            go_roundw
            case rel => exact ⟨n + 1, K4, s4, ins, by omega, by omega, by go_num, by rw [HCC.out], by omega, hI4, hide2 (HL7.out.up (by omega))⟩
            case measure => simp [intOf]; omega
          · subst hP2
            clear hp
            go_wp2_with fail
            refine HSTEP.out.mono ?_
            rintro e w9 ⟨rfl, q9⟩
            subst q9
            go_wp2_with fail
            refine HUS.out.mono ?_
            rintro e w10 ⟨rfl, q10⟩
            subst q10
            go_wp2
            go_roundw
            case rel => exact ⟨n + 1, K4, s4, ins, by omega, by omega, by go_num, by rw [HCC.out], by omega, hI4, hide2 (HL7.out.up (by omega))⟩
            case measure => simp [intOf]; omega
      · as_aux_lemma =>
          obtain ⟨hp, hg, hks, e1, e2, e3, e4, hno⟩ := v
          have hP2 : P = 1 := HP.out.trans hp
          subst hP2
          have hr6 : r1 = -1 := by
            rcases HR1.out with h6 | ⟨i, c, h6, hci, hck⟩
            · exact h6.1
            · exact absurd hck (hno c (List.mem_of_getElem? hci))
          subst hr6
          clear HR1 hno
          rw [e1, e2, e3, e4, hg]
          clear e1 e2 e3 e4 HR2 hp
          have hcc : s4.cells.length = used := by rw [HU0.out, cells_len, cells_len, hks, HL7.out.sp, HL3.out.sp]
          rw [hcc] at HUS
          have hI4 : Hid (Inn s4 ins) := hide2 (II.out.same hks)
          have HCC := hide2 hcc
          clear hcc hks HVD
          go_wp2_with fail
          refine HSTEP.out.mono ?_
          rintro e w9 ⟨rfl, q9⟩
          subst q9
          go_wp2_with fail
          refine HUS.out.mono ?_
          rintro e w10 ⟨rfl, q10⟩
          subst q10
          go_wp2
          go_roundw
          case rel => exact ⟨n + 1, K4, s4, ins, by omega, by omega, by go_num, by rw [HCC.out], by omega, hI4, hide2 (HL7.out.up (by omega))⟩
          case measure => simp [intOf]; omega
      · as_aux_lemma =>
          obtain ⟨hp, hg, hks, e1, e2, e3, e4, hno, hfull⟩ := v
          have hP2 : P = 0 := HP.out.trans hp
          subst hP2
          have hr6 : r1 = -1 := by
            rcases HR1.out with h6 | ⟨i, c, h6, hci, hck⟩
            · exact h6.1
            · exact absurd hck (hno c (List.mem_of_getElem? hci))
          subst hr6
          clear HR1 hno
          have hhb := hgt_bd x.h
          obtain ⟨hh, hhh⟩ : ∃ y, y = hgt x.h := ⟨_, rfl⟩
          have hht := height_any x w8
          rw [← hhh] at hht hhb hfull
          have HHT := hide2 hht
          have HHH := hide2 hhh
          rw [e1, e2, e3, e4, hg]
          rw [← HU0.out] at hfull
          have df : (size : Int) < (used : Int) + (hh : Int) := by omega
          clear e1 e2 e3 e4 HR2 hp hht hhh HSTEP HUS
          have hcc : s4.cells.length = used := by rw [HU0.out, cells_len, cells_len, hks, HL7.out.sp, HL3.out.sp]
          have hI4 : Hid (Inn s4 ins) := hide2 (II.out.same hks)
          have HCC := hide2 hcc
          clear hcc hks HVD hfull
          go_wp2_with fail
          refine HHT.out.mono ?_
          rintro e w9 ⟨rfl, hb9⟩
          have L9 := HL7.out.below hb9
          have x9 : Xv w9 wr.heap.size x := (hb9.block _ (Array.getElem?_eq_some_iff.1 HX7.out).1).trans HX7.out
          have o9 := HO7.out.same (hb9.block _ HO7.out.lt)
          obtain ⟨m0, m1, m2, m3, m4⟩ := x9.cells
          have HSTEP := hide2 (ostep_done o9 HST4.out)
          have hus := L9.ht.used
          rw [HCC.out] at hus
          have HUS := hide2 hus
          have HL9 := hide2 L9
          clear L9 x9 o9 hb9 hus HHT
          go_wp2_with fail
          refine HSTEP.out.mono ?_
          rintro e wx ⟨rfl, qx⟩
          subst qx
          go_wp2_with fail
          refine HUS.out.mono ?_
          rintro e w10 ⟨rfl, q10⟩
          subst q10
          go_wp2
          go_roundw
          case rel => exact ⟨n + 1, K4, s4, ins, by omega, by omega, by go_num, by rw [HCC.out], by omega, hI4, hide2 (HL9.out.up (by omega))⟩
          case measure => simp [intOf]; omega
      · skip
        obtain ⟨hp, hg, hks, e1, e2, e3, e4, hno, hroom⟩ := v
        have hP2 : P = 0 := HP.out.trans hp
        subst hP2
        have hr6 : r1 = -1 := by
          rcases HR1.out with h6 | ⟨i, c, h6, hci, hck⟩
          · exact h6.1
          · exact absurd hck (hno c (List.mem_of_getElem? hci))
        subst hr6
        clear HR1 hno
        have hI4 : Hid (Inn s4 (ins ++ [x])) := hide2 (II.out.put x hks)
        have hhb := hgt_bd x.h
        have hcc : s4.cells.length = used + hgt x.h := by
          rw [HU0.out, cells_len, cells_len, hks, HL7.out.sp, HL3.out.sp]
          simp
        obtain ⟨hh, hhh⟩ : ∃ y, y = hgt x.h := ⟨_, rfl⟩
        have hht := height_any x w8
        have hht2 := height_any x
        rw [← hhh] at hht hhb hroom hcc
        have HHT := hide2 hht
        have HHT2 : Hid (∀ w : World, Calls Tryd.prog 19 #[x.val] w fun e w' => e = .returned (.int .i64 ((hh : Nat) : Int)) ∧ Below w.heap.size w w') := hide2 (fun w => by have := hht2 w; rw [← hhh] at this; exact this)
        rw [e1, e2, e3, e4, hg]
        rw [← HU0.out] at hroom
        have df : ¬ (size : Int) < (used : Int) + (hh : Int) := by omega
        have df2 : decide ((size : Int) < (used : Int) + (hh : Int)) = false := by simp; omega
        have HCC := hide2 hcc
        clear e1 e2 e3 e4 HR2 hp hht hht2 hhh HSTEP HUS hcc hks HVD
        go_wp2_with fail
        refine HHT.out.mono ?_
        rintro e w9 ⟨rfl, hb9⟩
        have L9 := HL7.out.below hb9
        have x9 : Xv w9 wr.heap.size x := (hb9.block _ (Array.getElem?_eq_some_iff.1 HX7.out).1).trans HX7.out
        have o9 := HO7.out.same (hb9.block _ HO7.out.lt)
        obtain ⟨m0, m1, m2, m3, m4⟩ := x9.cells
        have HNEW := hide2 (ask_new w9 x)
        have HL9 := hide2 L9
        have HX9 := hide2 x9
        have HO9 := hide2 o9
        clear L9 x9 o9 hb9 HHT HL7 HX7 HO7
        go_wp2_with (at_builtin; refine Hid.out ?_)
        refine hide2 ?_
        refine wpList_append_own_at _ rfl _ _ 22 rfl w.heap.size 33 i0 (.agg #[.int .i64 0, .int .i64 0, .string .empty, .int .i64 0, .int .i64 0]) 5 48 Tryd.underlying22 hi0 z0 z1 z2 rfl (by decide) (.slice vo ins.length vc) _ _ rfl (World.ownsRow.alloc HL9.out.row _) ⟨w9.heap.size, 0, none⟩ 1 1 [.int .i64 x.w, .int .i64 x.kind, .string x.key, .int .i64 x.ref, .int .i64 x.h] rfl rfl HNEW.out (by intro u hu; simp at hu; rcases hu with rfl | rfl | rfl | rfl | rfl <;> rfl) (by unfold maxLen; omega) (by omega) (by simp; have := HL9.out.bl.size; omega) ?_
        intro v' w10 hown10 hgrow10 hat10 hb10
        obtain ⟨gt, capt, ev⟩ := hrow_succ hown10
        have hF10 : Fr (fun j => (Value.slice vo ins.length vc).ownBlock = some j) w9 w10 := ((Fr.refl (fun j => (Value.slice vo ins.length vc).ownBlock = some j) w9).alloc _).trans (Fr.grown hgrow10 (fun j e => e)) (fun j e => .inl e)
        have hr10 : Ar w10 w.heap.size v' (ins ++ [x]) := by
          unfold Ar
          have ec : x.cells = [.int .i64 x.w, .int .i64 x.kind, .string x.key, .int .i64 x.ref, .int .i64 x.h] := rfl
          rw [List.length_append, List.length_singleton, List.flatMap_append, List.flatMap_singleton, ec]
          exact hown10
        have L10 := HL9.out.rowed hF10 hr10 (fun j e => by
          rcases hb10 with q8 | q8
          · exact .inl (by rw [← q8]; exact e)
          · right
            rw [q8] at e
            simp at e
            omega)
        have x10 : Xv w10 wr.heap.size x := (hF10.block _ (Array.getElem?_eq_some_iff.1 HX9.out).1 hxv).trans HX9.out
        have o10 := HO9.out.same (hF10.block _ HO9.out.lt hobv)
        obtain ⟨m0, m1, m2, m3, m4⟩ := x10.cells
        have HHT := hide2 (HHT2.out w10)
        have HL10 := hide2 L10
        have HX10 := hide2 x10
        have HO10 := hide2 o10
        clear hown10 hgrow10 hat10 hb10 hF10 hr10 L10 x10 o10 HNEW HL9 HX9 HO9 HHT2
        subst ev
        go_frame
        go_wp2_with fail
        refine HHT.out.mono ?_
        rintro e w11 ⟨rfl, hb11⟩
        have L11 := HL10.out.below hb11
        have o11 := HO10.out.same (hb11.block _ HO10.out.lt)
        have HSTEP := hide2 (ostep_done o11 HST4.out)
        have hus := L11.ht.used
        rw [HCC.out] at hus
        have HUS := hide2 hus
        have HL11 := hide2 L11
        have hsum : (((used + hh : Nat) : Nat) : Int) = (used : Int) + (hh : Int) := by omega
        rw [hsum] at HUS
        clear hsum L11 o11 hb11 hus HHT HL10 HX10 HO10
        go_wp2_with fail
        refine HSTEP.out.mono ?_
        rintro e wx ⟨rfl, qx⟩
        subst qx
        go_wp2_with fail
        refine HUS.out.mono ?_
        rintro e w12 ⟨rfl, q12⟩
        subst q12
        go_wp2
        go_roundw
        case rel => exact ⟨n + 1, K4, s4, ins ++ [x], by omega, by omega, by go_num, by rw [HCC.out]; go_num, by simp; omega, hI4, hide2 (HL11.out.up (by omega))⟩
        case measure => simp [intOf]; omega
    · have HKY := hide2 L.out.ht.keys
      have hwwr : w.heap.size ≤ wr.heap.size := L.out.bl.size
      have FIN : Hid (∀ (w' : World) (q : Nat), Below wr.heap.size wr w' → Below w.heap.size w (w'.drewN q)) := hide2 (fun w' q hb => (L.out.bl.trans ⟨hb.os, hb.tape, hb.output, hb.size, fun j hj => hb.block j (by omega)⟩).trans (below_drewN _ _ _))
      have HSEQ := hide2 hseq
      have HND := hide2 (inn_nodup II.out L.out.ht.ok)
      by_cases hl1 : n < len
      · have d1 : decide ((n : Int) < (len : Int)) = true := by simp; omega
        have d2 : decide ((n : Int) < 1000) = false := by simp; omega
        have d3 : ¬ n < 1000 := fun q => hlt ⟨hl1, q⟩
        have d4 : ¬ (n : Int) < 1000 := by omega
        have d5 : (n : Int) < (len : Int) := by omega
        clear hlt hseq
        go_wp2_with fail
        refine HKY.out.mono ?_
        rintro e w3 ⟨v3, ts, rfl, hrow, hp, hpm, hb3⟩
        obtain ⟨to, tc, ev3, hts⟩ := str_seq hrow
        subst ev3
        rw [II.out.keys] at hpm
        have HSO := hide2 (sorted_any hts (HSEQ.out.keep hb3) (by rw [hpm.length_eq, List.length_map]) (fun y hy => by
          obtain ⟨a, ha, q⟩ := List.mem_map.1 (hpm.mem_iff.1 hy)
          exact ⟨a, ha, q⟩) hp (hpm.nodup_iff.2 HND.out))
        have HB3 := hide2 hb3
        clear HKY hrow hp hpm hb3 hts
        go_wp2_with fail
        refine HSO.out.mono ?_
        rintro e w4 ⟨rfl, q, hw4⟩
        have HW4 := hide2 hw4
        clear HSO hw4
        go_wp2
        go_ret
        exact ⟨rfl, by rw [HW4.out]; exact FIN.out _ _ HB3.out⟩
      · have d1 : decide ((n : Int) < (len : Int)) = false := by simp; omega
        have d5 : ¬ (n : Int) < (len : Int) := by omega
        clear hlt hseq
        go_wp2_with fail
        refine HKY.out.mono ?_
        rintro e w3 ⟨v3, ts, rfl, hrow, hp, hpm, hb3⟩
        obtain ⟨to, tc, ev3, hts⟩ := str_seq hrow
        subst ev3
        rw [II.out.keys] at hpm
        have HSO := hide2 (sorted_any hts (HSEQ.out.keep hb3) (by rw [hpm.length_eq, List.length_map]) (fun y hy => by
          obtain ⟨a, ha, q⟩ := List.mem_map.1 (hpm.mem_iff.1 hy)
          exact ⟨a, ha, q⟩) hp (hpm.nodup_iff.2 HND.out))
        have HB3 := hide2 hb3
        clear HKY hrow hp hpm hb3 hts
        go_wp2_with fail
        refine HSO.out.mono ?_
        rintro e w4 ⟨rfl, q, hw4⟩
        have HW4 := hide2 hw4
        clear HSO hw4
        go_wp2
        go_ret
        exact ⟨rfl, by rw [HW4.out]; exact FIN.out _ _ HB3.out⟩
end
end Go.Proofs.YtcncimnhbggdaaaDoor
