/-
  HashAlone.
-/
import Derived.Test.YtbpihkojmbfccaaDoorHc2
set_option linter.unusedVariables false
set_option linter.unusedSimpArgs false
namespace Go.Proofs.YtbpihkojmbfccaaDoor
open Go.RowKit Go.Maps Go.Sort

theorem lp_start {w wr : World} {tb d z nb : Nat} {K : Nat → Prop} (h : HT wr K tb d z 0 (s0 nb)) (hK : ∀ j, K j → w.heap.size ≤ j) (hb : Below w.heap.size w wr) (h0 : 0 < w.heap.size) : Lp w wr tb d z nb 0 K (s0 nb) [] (.slice none 0 0) :=
  ⟨h, rfl, by simp [s0], fun a ha => (by cases ha), fun e he => (by rw [s0_all] at he; cases he), by rw [s0_all]; rfl, ⟨rfl, .inl ⟨rfl, rfl⟩⟩, hK, fun j e => (by cases e), hb, h0⟩

theorem at_le {s : Tb} (b : Nat) : (s.at b).length ≤ s.all.length := by
  unfold Tb.at Tb.all
  rcases Nat.lt_or_ge b s.ch.length with h | h
  · exact (List.sublist_flatten_of_mem (getD_mem (z := []) h)).length_le
  · simp [List.getD, List.getElem?_eq_none h]

theorem ask_new (w : World) (x : AskR) : ∀ j u, [Value.int .i64 x.w, .bool x.look, .string x.key, .int .i64 x.ref][j]? = some u → (w.alloc (.cells #[.int .i64 x.w, .bool x.look, .string x.key, .int .i64 x.ref] 30)).cell? ((⟨w.heap.size, 0, none⟩ : Addr).add j) = some u := by
  intro j u h
  have hb : (w.alloc (.cells #[.int .i64 x.w, .bool x.look, .string x.key, .int .i64 x.ref] 30)).heap[w.heap.size]? = some (.cells #[.int .i64 x.w, .bool x.look, .string x.key, .int .i64 x.ref] 30 (0, 0)) := heap_alloc_new w _
  rw [addr_add, Go.Joins.cell_of_block hb, ← Array.getElem?_toList]
  simpa using h

/-- What an ask's variable holds. -/
def Xv (w : World) (b : Nat) (x : AskR) : Prop := w.heap[b]? = some (.cells #[.int .i64 x.w, .bool x.look, .string x.key, .int .i64 x.ref] 30 (0, 0))
theorem Xv.cells {w : World} {b : Nat} {x : AskR} (h : Xv w b x) : w.cell? ⟨b, 0, none⟩ = some (.int .i64 x.w) ∧ w.cell? ⟨b, 1, none⟩ = some (.bool x.look) ∧ w.cell? ⟨b, 2, none⟩ = some (.string x.key) ∧ w.cell? ⟨b, 3, none⟩ = some (.int .i64 x.ref) := by
  unfold Xv at h
  refine ⟨?_, ?_, ?_, ?_⟩ <;> (rw [Go.Joins.cell_of_block h]; rfl)
theorem Lp.up {w wr : World} {tb d z nb M M' : Nat} {K : Nat → Prop} {s : Tb} {ins : List AskR} {v : Value} (h : Lp w wr tb d z nb M K s ins v) (hM : M ≤ M') : Lp w wr tb d z nb M' K s ins v :=
  ⟨h.ht.up hM, h.sp, h.hd, h.m1, h.m2, h.ln, h.row, h.kb, h.vk, h.bl, h.b0⟩

section
variable {w : World}
set_option maxRecDepth 100000 in
set_option maxHeartbeats 8000000 in
theorem alone_ok (size nb : Nat) {ao : Option Addr} {len cap : Nat} {xs : List AskR} (hT : Tab w) (h1 : 1 ≤ size) (h2 : size ≤ 65536) (h3 : 1 ≤ nb) (h4 : nb ≤ 256) (h5 : nb ≤ size) (hs : Seq 4 AskR.cells w ao len cap xs) (hok : ∀ x ∈ xs, x.ok) :
    Calls Tryd.prog 3 #[.int .i64 (size : Int), .int .i64 (nb : Int), .slice ao len cap] w fun e w' => e = .returned (.bool true) ∧ Below w.heap.size w w' := by
  obtain ⟨i0, hi0, z0, z1, z2⟩ := info_parts infoAsk
  have hcap := hs.2.1
  have hmax := hs.2.2.1
  unfold maxLen at hmax
  have HS := hide2 (hshown_any hT)
  have HT0 := hide2 hT
  have hw0 := hT.1
  have HSQ := hide2 hs
  have HOK := hide2 hok
  clear hT hs hok
  go_enter Tryd.func3, Tryd.ntmps3
  go_wp2_with fail
  refine HS.out.mono ?_
  rintro e w1 ⟨rfl, hb1⟩
  have HM := hide2 (made_ok (HT0.out.below hb1 hw0) size nb h1 h2 h3 h4 h5)
  have HB1 := hide2 hb1
  have hs1 := hb1.size
  clear HS hb1
  go_wp2_with fail
  refine HM.out.mono ?_
  rintro e w2 ⟨d, tb, K, rfl, hH, hK, hb2⟩
  have HB2 : Hid (Below w.heap.size w w2) := hide2 (HB1.out.trans ⟨hb2.os, hb2.tape, hb2.output, hb2.size, fun j hj => hb2.block j (by omega)⟩)
  have HL := hide2 (lp_start hH (fun j hj => by have := hK j hj; omega) HB2.out hw0)
  clear HM hH hK hb2
  go_wp2
  go_loopw [12, 13] (fun v i wr => ∃ (n : Nat) (K : Nat → Prop) (s : Tb) (ins : List AskR), n ≤ len ∧ n ≤ 1000 ∧ i = .int .i64 n ∧ ins.length ≤ n ∧ Hid (Lp w wr tb d size nb (n * 5000) K s ins v)) (fun _ i _ => 1000 - (intOf i).toNat)
  case atStart => exact ⟨0, K, s0 nb, [], by omega, by omega, rfl, Nat.zero_le _, HL⟩
  case round =>
    obtain ⟨n, K, s, ins, hn1, hn2, rfl, hin, L⟩ := hrel
    obtain ⟨vo, vc, ev, hseq⟩ := L.out.row.seq
    subst ev
    by_cases hlt : n < len ∧ n < 1000
    · obtain ⟨g1, g2⟩ := hlt
      have d1 : decide ((n : Int) < (len : Int)) = true := by simp; omega
      have d2 : decide ((n : Int) < 1000) = true := by simp; omega
      obtain ⟨b, off, rfl, hbl, hcell⟩ := HSQ.out.2.2.2 (by omega)
      obtain ⟨x, hx⟩ := some_at HSQ.out.1 g1
      have hxok := HOK.out x (List.mem_of_getElem? hx)
      have hcb := fun p (hp : p.block < w.heap.size) => L.out.bl.cell (p := p) hp
      have q0 : wr.cell? ⟨b, off + n * 4, none⟩ = some (.int .i64 x.w) := (hcb _ hbl).trans (by have := hcell n x hx 0 _ rfl; simpa using this)
      have q1 : wr.cell? ⟨b, off + n * 4 + 1, none⟩ = some (.bool x.look) := (hcb _ hbl).trans (hcell n x hx 1 _ rfl)
      have q2 : wr.cell? ⟨b, off + n * 4 + 2, none⟩ = some (.string x.key) := (hcb _ hbl).trans (hcell n x hx 2 _ rfl)
      have q3 : wr.cell? ⟨b, off + n * 4 + 3, none⟩ = some (.int .i64 x.ref) := (hcb _ hbl).trans (hcell n x hx 3 _ rfl)
      -- the ask in a variable of its own
      obtain ⟨wa, hwa⟩ : ∃ y, y = wr.alloc (.cells #[.int .i64 x.w, .bool x.look, .string x.key, .int .i64 x.ref] 30) := ⟨_, rfl⟩
      have hba : Below wr.heap.size wr wa := by rw [hwa]; exact (Below.refl _ _).alloc (Nat.le_refl _) _
      have hsa : wa.heap.size = wr.heap.size + 1 := by rw [hwa]; simp
      have hna : wa.heap[wr.heap.size]? = some (.cells #[.int .i64 x.w, .bool x.look, .string x.key, .int .i64 x.ref] 30 (0, 0)) := by rw [hwa]; exact heap_alloc_new wr _
      have LA := L.out.below hba
      have HBG := hide2 (LA.ht.begun x hxok.2.1)
      have zz1 := heap_alloc_new wr (.cells #[.int .i64 0, .bool false, .string .empty, .int .i64 0] 30)
      have zz2 : (wr.alloc (.cells #[.int .i64 0, .bool false, .string .empty, .int .i64 0] 30)).cell? ⟨wr.heap.size, 0, none⟩ = some (.int .i64 0) := by rw [Go.Joins.cell_of_block zz1]; rfl
      have zz3 : (wr.alloc (.cells #[.int .i64 0, .bool false, .string .empty, .int .i64 0] 30)).cell? ⟨wr.heap.size, 1, none⟩ = some (.bool false) := by rw [Go.Joins.cell_of_block zz1]; rfl
      have zz4 : (wr.alloc (.cells #[.int .i64 0, .bool false, .string .empty, .int .i64 0] 30)).cell? ⟨wr.heap.size, 2, none⟩ = some (.string .empty) := by rw [Go.Joins.cell_of_block zz1]; rfl
      have zz5 : (wr.alloc (.cells #[.int .i64 0, .bool false, .string .empty, .int .i64 0] 30)).cell? ⟨wr.heap.size, 3, none⟩ = some (.int .i64 0) := by rw [Go.Joins.cell_of_block zz1]; rfl
      have zf0 := Go.Joins.unfrozen_of_block zz1 0
      have zf1 := Go.Joins.unfrozen_of_block zz1 1
      have zf2 := Go.Joins.unfrozen_of_block zz1 2
      have zf3 := Go.Joins.unfrozen_of_block zz1 3
      have m0 : wa.cell? ⟨wr.heap.size, 0, none⟩ = some (.int .i64 x.w) := by rw [Go.Joins.cell_of_block hna]; rfl
      have m1 : wa.cell? ⟨wr.heap.size, 1, none⟩ = some (.bool x.look) := by rw [Go.Joins.cell_of_block hna]; rfl
      have m2 : wa.cell? ⟨wr.heap.size, 2, none⟩ = some (.string x.key) := by rw [Go.Joins.cell_of_block hna]; rfl
      have m3 : wa.cell? ⟨wr.heap.size, 3, none⟩ = some (.int .i64 x.ref) := by rw [Go.Joins.cell_of_block hna]; rfl
      have HLA := hide2 LA
      have HKW := hide2 L.out.ht.kl
      have hwwr : w.heap.size ≤ wr.heap.size := L.out.bl.size
      have HNA := hide2 hna
      have HSA := hide2 hsa
      clear hcell LA hba hna hsa zz1 hcb L hseq
      go_wp2_with fail
      rw [← hwa]
      clear hwa zz2 zz3 zz4 zz5 zf0 zf1 zf2 zf3 q0 q1 q2 q3 m0 m1 m2 m3
      refine HBG.out.mono ?_
      rintro e w3 ⟨rfl, ho3, hb3⟩
      have L3 := HLA.out.below hb3
      have hsz3 := hb3.size
      have hsa := HSA.out
      have hxv3 : Xv w3 wr.heap.size x := (hb3.block _ (by omega)).trans HNA.out
      have hKa := HLA.out.ht.kl
      have hvb : ∀ j, (Value.slice vo ins.length vc).ownBlock = some j → j < wa.heap.size := fun j e => (World.ownsRow.lt HLA.out.row j e).2
      obtain ⟨ob, hob⟩ : ∃ y, y = wa.heap.size + 1 := ⟨_, rfl⟩
      rw [← hob] at ho3 ⊢
      have hobK : ¬ K ob := fun e => by have := hKa ob e; omega
      have hobv : (Value.slice vo ins.length vc).ownBlock ≠ some ob := fun e => by have := hvb ob e; omega
      have hobw : w.heap.size ≤ ob := by omega
      have hobx : wr.heap.size ≠ ob := by omega
      have hxK : ¬ K wr.heap.size := fun e => by have := HKW.out _ e; omega
      have HRE := hide2 (ref_early ho3 (by rw [opB_st]; decide))
      have HO3 := hide2 ho3
      have HL3 := hide2 L3
      have HX3 := hide2 hxv3
      have hob1 : ob ≠ 0 := by omega
      clear HBG HLA HNA HSA ho3 hb3 L3 hxv3 hKa hvb hob hsa hsz3
      go_wp2_with fail
      refine HRE.out.mono ?_
      rintro e w3' ⟨rfl, q3'⟩
      subst q3'
      clear HRE
      have hil : ins.length ≤ 1000 := by omega
      have emost : ((8 + 4 * ins.length : Nat) : Int) = 8 + 4 * (ins.length : Int) := by omega
      have d8 : ¬ ((8 : Int) + 4 * (ins.length : Int) < 0) := by omega
      cases hg : good x.key with
      | false =>
        have hdn := done_bad (most := 8 + 4 * ins.length) HL3.out.ht HO3.out (opB_st _ _ _) (by rw [opB_bad hg]; rfl) (by omega)
        rw [emost] at hdn
        have HD := hide2 hdn
        clear hdn emost
        go_wp2_with fail
        refine HD.out.mono ?_
        rintro e w4 ⟨rfl, ho4, hF4⟩
        have L4 := HL3.out.own hF4 hobK hobv hobw hob1
        have x4 : Xv w4 wr.heap.size x := (hF4.block _ (by have := (Array.getElem?_eq_some_iff.1 HX3.out).1; exact this) hobx).trans HX3.out
        have HR : Hid (Calls Tryd.prog 12 #[.pointer (some ⟨ob, 0, none⟩)] w4 fun e w' => e = .returned (.tuple #[.int .i64 0, .bool false, .int .i64 90]) ∧ ∃ q, w' = w4.drewN q) := hide2 (ref_any ho4 rfl)
        have HL4 := hide2 L4
        have HX4 := hide2 x4
        clear HD ho4 hF4 L4 x4
        go_wp2_with fail
        refine HR.out.mono ?_
        rintro e w5 ⟨rfl, q, hw5⟩
        have L5 := HL4.out.below (w' := w5) (by rw [hw5]; exact below_drewN _ _ _)
        have x5 : Xv w5 wr.heap.size x := by rw [hw5]; exact HX4.out
        obtain ⟨m0, m1, m2, m3⟩ := x5.cells
        obtain ⟨vo5, vc5, ev5, hseq5⟩ := L5.row.seq
        simp only [Value.slice.injEq, true_and] at ev5
        obtain ⟨rfl, rfl⟩ := ev5
        have HFD := hide2 (find_any9 hseq5 x.key)
        have hik := isKey_any x.key hxok.2.1 w5
        rw [hg] at hik
        have HIK := hide2 hik
        have hus := L5.ht.used
        rw [L5.cells] at hus
        have HUS := hide2 hus
        have HL5 := hide2 L5
        clear HR hw5 L5 x5 hseq5 hik hus
        go_wp2_with fail
        refine HFD.out.mono ?_
        rintro e w6 ⟨⟨r, rfl, -⟩, q6⟩
        subst q6
        go_wp2_with fail
        refine HIK.out.mono ?_
        rintro e w6 ⟨rfl, q6⟩
        subst q6
        go_wp2_with fail
        refine HUS.out.mono ?_
        rintro e w6 ⟨rfl, q6⟩
        subst q6
        go_wp2
        go_roundw
        case rel => exact ⟨n + 1, K, s, ins, by omega, by omega, by go_num, by omega, hide2 (HL5.out.up (by omega))⟩
        case measure => simp [intOf]; omega
      | true =>
        obtain ⟨rr, hrr⟩ : ∃ r : Int, r = if x.look = true then 0 else x.ref := ⟨_, rfl⟩
        rw [← hrr] at HO3
        have hal := opB_al (z := size) (s := s) hg (!x.look) rr
        have hst3 : (opB s x.key (!x.look) rr).st < 3 := by rw [opB_st]; decide
        obtain ⟨o3, ho3⟩ : ∃ o, o = opB s x.key (!x.look) rr := ⟨_, rfl⟩
        rw [← ho3] at HO3 hal hst3
        have hple := at_le (s := s) (bkt s.hd.length x.key)
        have hpl2 : (s.at (bkt s.hd.length x.key)).length ≤ ins.length := by rw [HL3.out.ln]; exact hple
        have hchl : bkt s.hd.length x.key < s.ch.length := by
          obtain ⟨T, N, hV, _⟩ := HL3.out.ht.inv
          rw [hV.len]; exact bkt_lt _ hV.n1.1
        have hdn := done_alone (most := 8 + 4 * ins.length) HL3.out.ht HL3.out.sp HO3.out hobK hal hst3 (by omega) (by omega) (by omega)
        rw [emost] at hdn
        have HD := hide2 hdn
        have HRR := hide2 hrr
        have HCH := hide2 hchl
        have hpb : (s.at (bkt s.hd.length x.key)).length ≤ 1000 := by omega
        clear hdn emost hal ho3 hrr hple hpl2 hchl
        go_wp2_with fail
        refine HD.out.mono ?_
        rintro e w4 ⟨n4, s4, o4, K4, rfl, hn4, hst4, hfin, h4, ho4, hK4, hF4⟩
        have d9 : ¬ ((n4 : Int) < 0) := by omega
        have d10 : decide ((n4 : Int) < 0) = false := by simp
        clear HD
        rcases hfin with ⟨e, he, hek, hr4, hh4, hc4, hs4⟩ | ⟨hno, ⟨hins, hr4, hh4, hc4, hs4⟩ | ⟨hins, hfull, hr4, hh4, hc4, hs4⟩ | ⟨hins, hroom, hr4, hh4, hc4, c, hs4⟩⟩
        · -- it is there
          rw [hs4] at h4
          clear hs4
          have L4 := HL3.out.went (M' := n * 5000 + ((s.at (bkt s.hd.length x.key)).length + 3)) h4 hK4 hF4 hobv hobw
          have x4 : Xv w4 wr.heap.size x := (hF4.block _ (Array.getElem?_eq_some_iff.1 HX3.out).1 (by rintro (e | e); exact hxK e; exact hobx e)).trans HX3.out
          have HEE : Hid (e ∈ s.all ∧ e.k = x.key) := hide2 ⟨at_all he, hek⟩
          clear he hek h4
          have hrf : Calls Tryd.prog 12 #[.pointer (some ⟨ob, 0, none⟩)] w4 fun y w' => y = .returned (.tuple #[.int .i64 e.r, .bool true, .int .i64 0]) ∧ ∃ q, w' = w4.drewN q := by
            have := ref_any ho4 hst4
            rw [hr4, hh4, hc4] at this
            exact this
          have HR := hide2 hrf
          have HL4 := hide2 L4
          have HX4 := hide2 x4
          clear hrf ho4 hF4 L4 x4 hr4 hh4 hc4 hst4 hK4
          go_wp2_with fail
          refine HR.out.mono ?_
          rintro e w5 ⟨rfl, q, hw5⟩
          have L5 := HL4.out.below (w' := w5) (by rw [hw5]; exact below_drewN _ _ _)
          have x5 : Xv w5 wr.heap.size x := by rw [hw5]; exact HX4.out
          obtain ⟨m0, m1, m2, m3⟩ := x5.cells
          obtain ⟨vo5, vc5, ev5, hseq5⟩ := L5.row.seq
          simp only [Value.slice.injEq, true_and] at ev5
          obtain ⟨rfl, rfl⟩ := ev5
          have HFD := hide2 (find_any9 hseq5 x.key)
          have HSQ5 := hide2 hseq5
          have hik := isKey_any x.key hxok.2.1 w5
          rw [hg] at hik
          have HIK := hide2 hik
          have hus := L5.ht.used
          rw [L5.cells] at hus
          have HUS := hide2 hus
          have HL5 := hide2 L5
          clear HR hw5 L5 x5 hseq5 hik hus
          go_wp2_with fail
          refine HFD.out.mono ?_
          rintro e' w6 ⟨⟨r, rfl, hfd⟩, q6⟩
          subst q6
          obtain ⟨i, a, hri, hai, hak⟩ : ∃ (i : Nat) (a : AskR), r = (i : Int) ∧ ins[i]? = some a ∧ a.key = x.key := by
            rcases hfd with ⟨-, h6⟩ | h6
            · obtain ⟨a, ha, hk6, -⟩ := HL5.out.m2 e HEE.out.1
              exact absurd (hk6.trans HEE.out.2) (h6 a ha)
            · exact h6
          have har : a.ref = e.r := by
            obtain ⟨e6, he6, k6, r6⟩ := HL5.out.m1 a (List.mem_of_getElem? hai)
            obtain ⟨T, N, hV, _⟩ := HL5.out.ht.inv
            have : e6 = e := map_inj (all_keys_nd hV) he6 HEE.out.1 (k6.trans (hak.trans HEE.out.2.symm))
            rw [← r6, this]
          have hil2 : i < ins.length := (List.getElem?_eq_some_iff.1 hai).1
          obtain ⟨g9, off9, evo, hgl, hc9⟩ := HSQ5.out.2.2.2 (by omega)
          have qa : w6.cell? ⟨g9, off9 + i * 4 + 3, none⟩ = some (.int .i64 a.ref) := hc9 i a hai 3 _ rfl
          rw [har] at qa
          have dd1 : decide ((0 : Int) ≤ (i : Int)) = true := by simp
          have dd2 : (i : Int) < (ins.length : Int) := by omega
          subst hri evo
          clear hfd hai hak har hc9 HFD
          go_wp2_with fail
          refine HIK.out.mono ?_
          rintro e' w7 ⟨rfl, q7⟩
          subst q7
          go_wp2_with fail
          refine HUS.out.mono ?_
          rintro e w6 ⟨rfl, q6⟩
          subst q6
          go_wp2
          go_roundw
          case rel => exact ⟨n + 1, K4, s, ins, by omega, by omega, by go_num, by omega, hide2 (HL5.out.up (by omega))⟩
          case measure => simp [intOf]; omega
        · -- a Lookup of what is not there
          rw [hs4] at h4
          clear hs4
          have L4 := HL3.out.went (M' := n * 5000 + ((s.at (bkt s.hd.length x.key)).length + 3)) h4 hK4 hF4 hobv hobw
          have x4 : Xv w4 wr.heap.size x := (hF4.block _ (Array.getElem?_eq_some_iff.1 HX3.out).1 (by rintro (e | e); exact hxK e; exact hobx e)).trans HX3.out
          have hlk : x.look = true := by simpa using hins
          have HNO := hide2 hno
          clear h4 hno hins
          have hrf : Calls Tryd.prog 12 #[.pointer (some ⟨ob, 0, none⟩)] w4 fun y w' => y = .returned (.tuple #[.int .i64 0, .bool false, .int .i64 0]) ∧ ∃ q, w' = w4.drewN q := by
            have := ref_any ho4 hst4
            rw [hr4, hh4, hc4] at this
            exact this
          have HR := hide2 hrf
          have HL4 := hide2 L4
          have HX4 := hide2 x4
          clear hrf ho4 hF4 L4 x4 hr4 hh4 hc4 hst4 hK4
          go_wp2_with fail
          refine HR.out.mono ?_
          rintro e w5 ⟨rfl, q, hw5⟩
          have L5 := HL4.out.below (w' := w5) (by rw [hw5]; exact below_drewN _ _ _)
          have x5 : Xv w5 wr.heap.size x := by rw [hw5]; exact HX4.out
          obtain ⟨m0, m1, m2, m3⟩ := x5.cells
          obtain ⟨vo5, vc5, ev5, hseq5⟩ := L5.row.seq
          simp only [Value.slice.injEq, true_and] at ev5
          obtain ⟨rfl, rfl⟩ := ev5
          have HFD := hide2 (find_any9 hseq5 x.key)
          have HSQ5 := hide2 hseq5
          have hik := isKey_any x.key hxok.2.1 w5
          rw [hg] at hik
          have HIK := hide2 hik
          have hus := L5.ht.used
          rw [L5.cells] at hus
          have HUS := hide2 hus
          have HL5 := hide2 L5
          clear HR hw5 L5 x5 hseq5 hik hus
          go_wp2_with fail
          refine HFD.out.mono ?_
          rintro e' w6 ⟨⟨r, rfl, hfd⟩, q6⟩
          subst q6
          have hr6 : r = -1 := by
            rcases hfd with h6 | ⟨i, a, h6, hai, hak⟩
            · exact h6.1
            · obtain ⟨e6, he6, k6, r6⟩ := HL5.out.m1 a (List.mem_of_getElem? hai)
              obtain ⟨b6, hb6, hm6⟩ := all_at he6
              obtain ⟨T, N, hV, _⟩ := HL5.out.ht.inv
              have hbk := (hV.key b6 (by rw [← hV.len]; exact hb6) e6 hm6).1
              rw [k6, hak] at hbk
              exact absurd (k6.trans hak) (HNO.out e6 (by rw [hbk]; exact hm6))
          subst hr6
          rw [hlk] at m1
          clear hfd HFD
          go_wp2_with fail
          refine HIK.out.mono ?_
          rintro e' w7 ⟨rfl, q7⟩
          subst q7
          go_wp2_with fail
          refine HUS.out.mono ?_
          rintro e w6 ⟨rfl, q6⟩
          subst q6
          go_wp2
          go_roundw
          case rel => exact ⟨n + 1, K4, s, ins, by omega, by omega, by go_num, by omega, hide2 (HL5.out.up (by omega))⟩
          case measure => simp [intOf]; omega
        · -- no cell is free
          rw [hs4] at h4
          clear hs4
          have L4 := HL3.out.went (M' := n * 5000 + ((s.at (bkt s.hd.length x.key)).length + 3)) h4 hK4 hF4 hobv hobw
          have x4 : Xv w4 wr.heap.size x := (hF4.block _ (Array.getElem?_eq_some_iff.1 HX3.out).1 (by rintro (e | e); exact hxK e; exact hobx e)).trans HX3.out
          have hlk : x.look = false := by simpa using hins
          have hcl := HL3.out.cells
          have HNO := hide2 hno
          have df : decide ((size : Int) ≤ (nb : Int) + (ins.length : Int)) = true := by rw [hfull] at hcl; simp; omega
          clear h4 hno hins hcl hfull
          have hrf : Calls Tryd.prog 12 #[.pointer (some ⟨ob, 0, none⟩)] w4 fun y w' => y = .returned (.tuple #[.int .i64 0, .bool false, .int .i64 31]) ∧ ∃ q, w' = w4.drewN q := by
            have := ref_any ho4 hst4
            rw [hr4, hh4, hc4] at this
            exact this
          have HR := hide2 hrf
          have HL4 := hide2 L4
          have HX4 := hide2 x4
          clear hrf ho4 hF4 L4 x4 hr4 hh4 hc4 hst4 hK4
          go_wp2_with fail
          refine HR.out.mono ?_
          rintro e w5 ⟨rfl, q, hw5⟩
          have L5 := HL4.out.below (w' := w5) (by rw [hw5]; exact below_drewN _ _ _)
          have x5 : Xv w5 wr.heap.size x := by rw [hw5]; exact HX4.out
          obtain ⟨m0, m1, m2, m3⟩ := x5.cells
          obtain ⟨vo5, vc5, ev5, hseq5⟩ := L5.row.seq
          simp only [Value.slice.injEq, true_and] at ev5
          obtain ⟨rfl, rfl⟩ := ev5
          have HFD := hide2 (find_any9 hseq5 x.key)
          have HSQ5 := hide2 hseq5
          have hik := isKey_any x.key hxok.2.1 w5
          rw [hg] at hik
          have HIK := hide2 hik
          have hus := L5.ht.used
          rw [L5.cells] at hus
          have HUS := hide2 hus
          have HL5 := hide2 L5
          clear HR hw5 L5 x5 hseq5 hik hus
          go_wp2_with fail
          refine HFD.out.mono ?_
          rintro e' w6 ⟨⟨r, rfl, hfd⟩, q6⟩
          subst q6
          have hr6 : r = -1 := by
            rcases hfd with h6 | ⟨i, a, h6, hai, hak⟩
            · exact h6.1
            · obtain ⟨e6, he6, k6, r6⟩ := HL5.out.m1 a (List.mem_of_getElem? hai)
              obtain ⟨b6, hb6, hm6⟩ := all_at he6
              obtain ⟨T, N, hV, _⟩ := HL5.out.ht.inv
              have hbk := (hV.key b6 (by rw [← hV.len]; exact hb6) e6 hm6).1
              rw [k6, hak] at hbk
              exact absurd (k6.trans hak) (HNO.out e6 (by rw [hbk]; exact hm6))
          subst hr6
          rw [hlk] at m1
          clear hfd HFD
          go_wp2_with fail
          refine HIK.out.mono ?_
          rintro e' w7 ⟨rfl, q7⟩
          subst q7
          go_wp2_with fail
          refine HUS.out.mono ?_
          rintro e w6 ⟨rfl, q6⟩
          subst q6
          go_wp2
          go_roundw
          case rel => exact ⟨n + 1, K4, s, ins, by omega, by omega, by go_num, by omega, hide2 (HL5.out.up (by omega))⟩
          case measure => simp [intOf]; omega
        · -- it is put in
          have hlk : x.look = false := by simpa using hins
          have hrx : rr = x.ref := by rw [HRR.out, hlk]; rfl
          have hcl := HL3.out.cells
          have df : decide ((size : Int) ≤ (nb : Int) + (ins.length : Int)) = false := by simp; omega
          have x4 : Xv w4 wr.heap.size x := (hF4.block _ (Array.getElem?_eq_some_iff.1 HX3.out).1 (by rintro (e | e); exact hxK e; exact hobx e)).trans HX3.out
          have r4 : Ar w4 w.heap.size (.slice vo ins.length vc) ins := hrow_fr HL3.out.row hF4 (fun j e q => by
            rcases q with q | q
            · exact HL3.out.vk j e q
            · exact hobv (q ▸ e))
          have hrf : Calls Tryd.prog 12 #[.pointer (some ⟨ob, 0, none⟩)] w4 fun y w' => y = .returned (.tuple #[.int .i64 x.ref, .bool false, .int .i64 0]) ∧ ∃ q, w' = w4.drewN q := by
            have := ref_any ho4 hst4
            rw [hr4, hh4, hc4, hrx] at this
            exact this
          have HR := hide2 hrf
          rw [hs4, hrx] at h4
          have H4 := hide2 h4
          have HK4 := hide2 hK4
          have HF4 := hide2 hF4
          have HX4 := hide2 x4
          have HR4 := hide2 r4
          have HNO := hide2 hno
          have hsz4 := hF4.size
          clear hrf ho4 hF4 x4 r4 hr4 hh4 hc4 hst4 hK4 h4 hs4 hno hins hcl hroom hrx
          go_wp2_with fail
          refine HR.out.mono ?_
          rintro e w5 ⟨rfl, q, hw5⟩
          have hF5 : Fr (fun _ => False) w4 w5 := by rw [hw5]; exact (Fr.refl _ w4).drewN q
          have hs5 : w5.heap.size = w4.heap.size := by rw [hw5]; rfl
          have x5 : Xv w5 wr.heap.size x := by rw [hw5]; exact HX4.out
          obtain ⟨m0, m1, m2, m3⟩ := x5.cells
          have r5 : Ar w5 w.heap.size (.slice vo ins.length vc) ins := hrow_fr HR4.out hF5 (fun _ _ => id)
          obtain ⟨vo5, vc5, ev5, hseq5⟩ := r5.seq
          simp only [Value.slice.injEq, true_and] at ev5
          obtain ⟨rfl, rfl⟩ := ev5
          have HFD := hide2 (find_any9 hseq5 x.key)
          have hik := isKey_any x.key hxok.2.1 w5
          rw [hg] at hik
          have HIK := hide2 hik
          have HR5 := hide2 r5
          have HF5 := hide2 hF5
          have HS5 := hide2 hs5
          clear HR hw5 x5 hseq5 hik r5 hF5 hs5
          go_wp2_with fail
          refine HFD.out.mono ?_
          rintro e' w6 ⟨⟨r, rfl, hfd⟩, q6⟩
          subst q6
          have hr6 : r = -1 := by
            rcases hfd with h6 | ⟨i, a, h6, hai, hak⟩
            · exact h6.1
            · obtain ⟨e6, he6, k6, r6⟩ := HL3.out.m1 a (List.mem_of_getElem? hai)
              obtain ⟨b6, hb6, hm6⟩ := all_at he6
              obtain ⟨T, N, hV, _⟩ := HL3.out.ht.inv
              have hbk := (hV.key b6 (by rw [← hV.len]; exact hb6) e6 hm6).1
              rw [k6, hak] at hbk
              exact absurd (k6.trans hak) (HNO.out e6 (by rw [hbk]; exact hm6))
          subst hr6
          rw [hlk] at m1
          clear hfd HFD
          go_wp2_with fail
          refine HIK.out.mono ?_
          rintro e' w7 ⟨rfl, q7⟩
          subst q7
          have hnew := ask_new w7 x
          rw [hlk] at hnew
          have HNEW := hide2 hnew
          clear hnew
          go_wp2_with (at_builtin; refine Hid.out ?_)
          refine hide2 ?_
          refine wpList_append_own_at _ rfl _ _ 22 rfl w.heap.size 30 i0 (.agg #[.int .i64 0, .bool false, .string .empty, .int .i64 0]) 4 40 Tryd.underlying22 hi0 z0 z1 z2 rfl (by decide) (.slice vo ins.length vc) _ _ rfl (World.ownsRow.alloc HR5.out _) ⟨w7.heap.size, 0, none⟩ 1 1 [.int .i64 x.w, .bool false, .string x.key, .int .i64 x.ref] rfl rfl HNEW.out (by intro u hu; simp at hu; rcases hu with rfl | rfl | rfl | rfl <;> rfl) (by unfold maxLen; omega) (by omega) (by simp; have := HS5.out; have := HL3.out.bl.size; omega) ?_
          intro v' w8 hown8 hgrow8 hat8 hb8
          obtain ⟨gt, capt, ev⟩ := hrow_succ hown8
          have hFa : Fr (fun _ => False) w4 (w7.alloc (.cells #[.int .i64 x.w, .bool false, .string x.key, .int .i64 x.ref] 30)) := HF5.out.trans ((Fr.refl (fun _ => False) w7).alloc _) (fun j e => .inl e)
          have hF8 : Fr (fun j => (Value.slice vo ins.length vc).ownBlock = some j) w4 w8 := (hFa.mono (G := fun j => (Value.slice vo ins.length vc).ownBlock = some j) (fun _ _ e => e.elim)).trans (Fr.grown hgrow8 (fun j e => e)) (fun j e => .inl e)
          have hr8 : Ar w8 w.heap.size v' (ins ++ [x]) := by
            unfold Ar
            have ec : x.cells = [.int .i64 x.w, .bool false, .string x.key, .int .i64 x.ref] := by unfold AskR.cells; rw [hlk]
            rw [List.length_append, List.length_singleton, List.flatMap_append, List.flatMap_singleton, ec]
            exact hown8
          have L8 := HL3.out.putIn (a := x) HCH.out H4.out HK4.out HF4.out hobv hobw ⟨rfl, rfl⟩ hF8 hr8 (fun j e => by
            rcases hb8 with q8 | q8
            · exact .inl (by rw [← q8]; exact e)
            · right
              rw [q8] at e
              simp at e
              have := HS5.out
              omega)
          have hus := L8.ht.used
          rw [L8.cells, List.length_append, List.length_singleton] at hus
          have HUS := hide2 hus
          have HL8 := hide2 L8
          clear hown8 hgrow8 hat8 hb8 hFa hF8 hr8 L8 hus HNEW HR5 HF5 HS5 HIK
          subst ev
          go_frame
          go_wp2_with fail
          refine HUS.out.mono ?_
          rintro e w9 ⟨rfl, q9⟩
          subst q9
          go_wp2
          go_roundw
          case rel => exact ⟨n + 1, K4, _, ins ++ [x], by omega, by omega, by go_num, by simp; omega, hide2 (HL8.out.up (by omega))⟩
          case measure => simp [intOf]; omega
    · have HKY := hide2 L.out.ht.keys
      have hwwr : w.heap.size ≤ wr.heap.size := L.out.bl.size
      have FIN : Hid (∀ (w' : World) (q : Nat), Below wr.heap.size wr w' → Below w.heap.size w (w'.drewN q)) := hide2 (fun w' q hb => (L.out.bl.trans ⟨hb.os, hb.tape, hb.output, hb.size, fun j hj => hb.block j (by omega)⟩).trans (below_drewN _ _ _))
      have HSEQ := hide2 hseq
      by_cases hl1 : n < len
      · have d1 : decide ((n : Int) < (len : Int)) = true := by simp; omega
        have d2 : decide ((n : Int) < 1000) = false := by simp; omega
        have d3 : ¬ n < 1000 := fun q => hlt ⟨hl1, q⟩
        have d4 : ¬ (n : Int) < 1000 := by omega
        have d5 : (n : Int) < (len : Int) := by omega
        clear hlt hseq
        go_wp2_with fail
        refine HKY.out.mono ?_
        rintro e w3 ⟨v3, ts, rfl, hrow, hp, hnd, hmem, hlen, hb3⟩
        obtain ⟨to, tc, ev3, hts⟩ := str_seq hrow
        subst ev3
        have HSO := hide2 (sorted_any9 hts (HSEQ.out.keep hb3) (by rw [hlen, L.out.ln]) (fun y hy => by
          obtain ⟨e, he, q⟩ := (hmem y).1 hy
          obtain ⟨a, ha, k, -⟩ := L.out.m2 e he
          exact ⟨a, ha, by rw [k]; exact q⟩) hp hnd)
        have HB3 := hide2 hb3
        clear HKY hrow hp hnd hmem hlen hb3 hts
        go_wp2_with fail
        refine HSO.out.mono ?_
        rintro e w4 ⟨rfl, q, hw4⟩
        have HW4 := hide2 hw4
        clear HSO hw4
        go_wp2
        go_ret
        exact ⟨rfl, by rw [HW4.out]; exact FIN.out _ _ HB3.out⟩
      · have d1 : decide ((n : Int) < (len : Int)) = false := by simp; omega
        have d5 : ¬ (n : Int) < (len : Int) := by omega
        clear hlt hseq
        go_wp2_with fail
        refine HKY.out.mono ?_
        rintro e w3 ⟨v3, ts, rfl, hrow, hp, hnd, hmem, hlen, hb3⟩
        obtain ⟨to, tc, ev3, hts⟩ := str_seq hrow
        subst ev3
        have HSO := hide2 (sorted_any9 hts (HSEQ.out.keep hb3) (by rw [hlen, L.out.ln]) (fun y hy => by
          obtain ⟨e, he, q⟩ := (hmem y).1 hy
          obtain ⟨a, ha, k, -⟩ := L.out.m2 e he
          exact ⟨a, ha, by rw [k]; exact q⟩) hp hnd)
        have HB3 := hide2 hb3
        clear HKY hrow hp hnd hmem hlen hb3 hts
        go_wp2_with fail
        refine HSO.out.mono ?_
        rintro e w4 ⟨rfl, q, hw4⟩
        have HW4 := hide2 hw4
        clear HSO hw4
        go_wp2
        go_ret
        exact ⟨rfl, by rw [HW4.out]; exact FIN.out _ _ HB3.out⟩
end
end Go.Proofs.YtbpihkojmbfccaaDoor
