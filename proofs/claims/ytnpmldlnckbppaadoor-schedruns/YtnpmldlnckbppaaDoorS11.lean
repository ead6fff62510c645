/-
  SchedRuns' walk.
-/
import Derived.Test.YtnpmldlnckbppaaDoorS10
set_option linter.unusedVariables false
set_option linter.unusedSimpArgs false
namespace Go.Proofs.YtnpmldlnckbppaaDoor
open Go.RowKit

/-- One number of one list is another one. -/
theorem Outs.put {w : World} {B r i k : Nat} {A : List (List Int)} {us : List Value} {g cap : Nat} (h : Outs w B r A us) (hi : i < A.length) (e : us.getD i nilS = .slice (some ⟨g, 0, none⟩) (A.getD i []).length cap) (x : Int) :
    Outs (w.setCell ⟨g, k, none⟩ (.int .u64 x)) B r (A.set i ((A.getD i []).set k x)) us := by
  have hr := h.row i
  rw [e] at hr
  have hgr : g ≠ r := fun e2 => by
    obtain ⟨c, fz, hh⟩ := Go.Lib.ownsRow_kind hr g rfl
    rw [e2, h.blk] at hh
    simp at hh
  obtain ⟨s1, s2⟩ := hr.stored k (.int .u64 x)
  refine ⟨(Below.heap_setCell _ _ _ _ (by simpa using Ne.symm hgr)).trans h.blk, by simpa using h.len, fun j => ?_, h.apart⟩
  rw [getD_set_list hi]
  by_cases e2 : j = i
  · rw [if_pos e2, e2, e, List.length_set, List.map_set]
    exact s1
  · rw [if_neg e2]
    refine row_fr (h.row j) (Fr.setCell (p := ⟨g, k, none⟩) (Fr.refl (fun j => j = g) w) (.inl rfl) _) (fun l hl e3 => ?_)
    exact h.apart i j g (Ne.symm e2) (by rw [e]; rfl) (by rw [hl, e3])
theorem Outs.below {w w' : World} {B r : Nat} {A : List (List Int)} {us : List Value} (h : Outs w B r A us) (hb : Below w.heap.size w w') : Outs w' B r A us :=
  h.fr (X := fun _ => False) (Fr.below hb) (fun h => h) (fun _ h => h.elim)
theorem Outs.form {w : World} {B r i : Nat} {A : List (List Int)} {us : List Value} (h : Outs w B r A us) (hl : 0 < (A.getD i []).length) : ∃ g cap, us.getD i nilS = .slice (some ⟨g, 0, none⟩) (A.getD i []).length cap := by
  rcases Go.Joins.ownsRow_forms (h.row i) with ⟨_, h0⟩ | ⟨g, cap, e⟩
  · omega
  · exact ⟨g, cap, e⟩
theorem Outs.sl {w : World} {B r i : Nat} {A : List (List Int)} {us : List Value} (h : Outs w B r A us) (hi : i < A.length) : ∃ ao cap, us.getD i nilS = .slice ao (A.getD i []).length cap ∧ w.cell? ⟨r, i, none⟩ = some (.slice ao (A.getD i []).length cap) := by
  obtain ⟨ao, cap, e, -⟩ := row_ints (h.row i)
  have hiu : i < us.length := by rw [h.len]; exact hi
  refine ⟨ao, cap, e, ?_⟩
  rw [Go.Joins.cell_of_block h.blk, ← e]
  simp [List.getD, List.getElem?_eq_getElem hiu]
theorem lists_nil (w : World) : Lists w none 0 0 [] := ⟨⟨rfl, Nat.le_refl _, Nat.zero_le _, fun h => absurd h (by omega)⟩, fun p hp => by cases hp⟩
theorem nums_nil (w : World) : Ints .u64 w none 0 0 [] := ⟨rfl, Nat.le_refl _, Nat.zero_le _, fun h => absurd h (by omega)⟩

set_option maxRecDepth 100000 in
set_option maxHeartbeats 8000000 in
theorem runs_wrong (size : Int) (pao : Option Addr) (plen pcap : Nat) (Ps : List PrR) (xao : Option Addr) (xlen xcap : Nat) (w : World) (hT : Tab w) (hPs : Progs w pao plen pcap Ps) (hr : right size Ps = false) :
    Calls Tryd.prog 3 #[.int .i64 size, .slice pao plen pcap, .slice xao xlen xcap] w fun e w' => e = .returned (.bool true) ∧ Below w.heap.size w w' := by
  have HN := hide2 (shown_any w hT)
  have HP := hide2 hPs
  clear hPs
  go_enter Tryd.func3, Tryd.ntmps3
  go_wp2_with fail
  refine HN.out.mono ?_
  rintro e w1 ⟨rfl, hB1⟩
  clear HN
  have hs1 := hB1.size
  have HR := hide2 (Run_wrong w1 size pao plen pcap Ps (.slice xao xlen xcap) (HP.out.keep hB1) hr)
  go_wp2_with fail
  refine HR.out.mono ?_
  rintro e w2 ⟨rfl, hB2⟩
  clear HR
  have hBB2 : Below w.heap.size w w2 := hB1.trans (hB2.mono hs1)
  have hs2 := hBB2.size
  have HR := hide2 (RRun_wrong w2 size pao plen pcap Ps (.slice xao xlen xcap) (HP.out.keep hBB2) hr)
  go_wp2_with fail
  refine HR.out.mono ?_
  rintro e w3 ⟨rfl, hB3⟩
  clear HR
  have hBB3 : Below w.heap.size w w3 := hBB2.trans (hB3.mono hs2)
  have HL := hide2 (lists_any w3 none none 0 0 0 0 [] [] (lists_nil _) (lists_nil _))
  rw [decide_eq_true rfl] at HL
  go_wp2_with fail
  refine HL.out.mono ?_
  rintro e w4 ⟨rfl, q, rfl⟩
  clear HL
  have HW := hide2 (words_any (w3.drewN q) none none 0 0 0 0 [] [] (nums_nil _) (nums_nil _))
  rw [decide_eq_true rfl] at HW
  go_wp2_with fail
  refine HW.out.mono ?_
  rintro e w5 ⟨rfl, q2, rfl⟩
  clear HW
  have hBB5 : Below w.heap.size w ((w3.drewN q).drewN q2) := (hBB3.trans (below_drewN _ _ _)).trans (below_drewN _ _ _)
  obtain ⟨wx, hwx⟩ : ∃ x, x = (w3.drewN q).drewN q2 := ⟨_, rfl⟩
  rw [← hwx] at hBB5 ⊢
  clear hwx
  have HB5 := hide2 hBB5
  have hs5 := hBB5.size
  have HR := hide2 (Run_wrong wx size pao plen pcap Ps (.slice xao xlen xcap) (HP.out.keep hBB5) hr)
  clear hBB5 hBB3 hBB2 hB3 hB2 hB1
  go_wp2
  go_loop [17] (fun i => i = .int .i64 0) (fun _ => 0)
  case atStart => rfl
  case round =>
  subst hrel
  go_wp2
  go_loop [19] (fun i => i = .int .i64 0) (fun _ => 0)
  case atStart => rfl
  case round =>
  subst hrel
  go_wp2_with fail
  refine HR.out.mono ?_
  rintro e w6 ⟨rfl, hB6⟩
  clear HR
  have HL := hide2 (lists_any w6 none none 0 0 0 0 [] [] (lists_nil _) (lists_nil _))
  rw [decide_eq_true rfl] at HL
  have hB7 : Below w.heap.size w w6 := HB5.out.trans (hB6.mono hs5)
  go_wp2_with fail
  refine HL.out.mono ?_
  rintro e w7 ⟨rfl, q3, rfl⟩
  clear HL
  go_wp2
  go_ret
  exact ⟨rfl, hB7.trans (below_drewN _ _ _)⟩

set_option maxRecDepth 100000 in
set_option maxHeartbeats 16000000 in
theorem runs_right (n : Nat) (pao : Option Addr) (plen pcap : Nat) (Ps : List PrR) (xao : Option Addr) (xlen xcap : Nat) (xs : List Int) (w : World) (hT : Tab w) (hPs : Progs w pao plen pcap Ps) (hxs : Ints .i64 w xao xlen xcap xs) (hr : right n Ps = true) (hxb : xlen ≤ 140737488351232) :
    Calls Tryd.prog 3 #[.int .i64 (n : Int), .slice pao plen pcap, .slice xao xlen xcap] w fun e w' => e = .returned (.bool true) ∧ Below w.heap.size w w' := by
  have h0 := hT.1
  obtain ⟨hn1, hn2, hp16, -⟩ := right_parts hr
  have HN := hide2 (shown_any w hT)
  have HP := hide2 hPs
  have HX := hide2 hxs
  have hplen : Ps.length = plen := hPs.out.1
  have hAlen : (runs (ops Ps) xs (St.start n Ps.length)).A.length = plen := by
    rw [(runs_n (Q := ops Ps) xs (St.start n Ps.length)).2.1]
    simp [St.start, hplen]
  have hNlen : (runs (ops Ps) xs (St.start n Ps.length)).N.length = n := by
    rw [(runs_n (Q := ops Ps) xs (St.start n Ps.length)).2.2]
    simp [St.start]
  have hpl : plen ≤ 16 := by omega
  have HRun : Hid (∀ u : World, Below w.heap.size w u → Calls Tryd.prog 10 #[.int .i64 (n : Int), .slice pao plen pcap, .slice xao xlen xcap] u fun e w' => ∃ r h us, e = .returned (.tuple #[.slice (some ⟨r, 0, none⟩) plen plen, .slice (some ⟨h, 0, none⟩) n n, .int .i64 ((runs (ops Ps) xs (St.start n Ps.length)).n : Int), .int .i64 0]) ∧
      Outs w' u.heap.size r (runs (ops Ps) xs (St.start n Ps.length)).A us ∧ Nb w' h (runs (ops Ps) xs (St.start n Ps.length)).N ∧ u.heap.size ≤ h ∧ u.heap.size ≤ r ∧ (∀ i, (us.getD i nilS).ownBlock ≠ some h) ∧ Below u.heap.size u w') := hide2 (fun u hu => Run_right u n pao plen pcap Ps xao xlen xcap xs (hPs.keep hu) (hxs.keep hu) (hT.below hu h0) hr hxb)
  have HRef : Hid (∀ u : World, Below w.heap.size w u → Calls Tryd.prog 11 #[.int .i64 (n : Int), .slice pao plen pcap, .slice xao xlen xcap] u fun e w' => ∃ r hv us, e = .returned (.tuple #[.slice (some ⟨r, 0, none⟩) plen plen, hv, .int .i64 ((runs (ops Ps) xs (St.start n Ps.length)).n : Int), .int .i64 0]) ∧
      Outs w' u.heap.size r (runs (ops Ps) xs (St.start n Ps.length)).A us ∧ w'.ownsRow u.heap.size 32 1 hv n ((runs (ops Ps) xs (St.start n Ps.length)).N.map (Value.int .u64)) ∧ Below u.heap.size u w' ∧ u.heap.size ≤ r) := hide2 (fun u hu => RRun_right u n pao plen pcap Ps xao xlen xcap xs (hPs.keep hu) (hxs.keep hu) hr hxb)
  generalize runs (ops Ps) xs (St.start n Ps.length) = s at *
  obtain ⟨N, A, cnt⟩ := s
  simp only at hAlen hNlen HRun HRef
  have HAL := hide2 hAlen
  have HNL := hide2 hNlen
  clear hPs hxs hplen hAlen hNlen
  go_enter Tryd.func3, Tryd.ntmps3
  go_wp2_with fail
  refine HN.out.mono ?_
  rintro e w1 ⟨rfl, hB1⟩
  clear HN
  have hs1 := hB1.size
  have HR := hide2 (HRun.out w1 hB1)
  go_wp2_with fail
  refine HR.out.mono ?_
  rintro e w2 ⟨r1, h1, us1, rfl, hO1, hN1, hh1, hr1, hne1, hB2⟩
  clear HR
  have hs2 := hB2.size
  have hBB2 : Below w.heap.size w w2 := hB1.trans (hB2.mono hs1)
  have hr1l : r1 < w2.heap.size := (Array.getElem?_eq_some_iff.1 hO1.blk).1
  have hh1l := hN1.lt
  have HO1 := hide2 hO1
  have HN1 := hide2 hN1
  have HNE1 := hide2 hne1
  have HR := hide2 (HRef.out w2 hBB2)
  clear hO1 hN1 hne1
  go_wp2_with fail
  refine HR.out.mono ?_
  rintro e w3 ⟨r2, hv2, us2, rfl, hO2, hrow2, hB3, hr2⟩
  clear HR HRef
  have hs3 := hB3.size
  have hBB3 : Below w.heap.size w w3 := hBB2.trans (hB3.mono (by omega))
  obtain ⟨a2, c2, ehv, hi2⟩ : ∃ a2 c2, hv2 = .slice a2 n c2 ∧ Ints .u64 w3 a2 n c2 N := by
    have h := hrow2
    rw [← HNL.out] at h
    obtain ⟨a2, c2, e, hi⟩ := row_ints h
    rw [HNL.out] at e hi
    exact ⟨a2, c2, e, hi⟩
  subst ehv
  have hL1 : Lists w3 (some ⟨r1, 0, none⟩) plen plen (outR us1 A) := by
    have := (HO1.out.below hB3).lists (by rw [HAL.out]; exact hpl)
    rw [HAL.out] at this
    exact this
  have hL2 : Lists w3 (some ⟨r2, 0, none⟩) plen plen (outR us2 A) := by
    have := hO2.lists (by rw [HAL.out]; exact hpl)
    rw [HAL.out] at this
    exact this
  have HL := hide2 (lists_any w3 _ _ _ _ _ _ _ _ hL1 hL2)
  rw [outR_xs, outR_xs, decide_eq_true rfl] at HL
  have hI1 : Ints .u64 w3 (some ⟨h1, 0, none⟩) n n N := by
    have := Nb.ints ((hB3.block h1 hh1l).trans HN1.out : Nb w3 h1 N) (by rw [HNL.out]; exact hn2)
    rw [HNL.out] at this
    exact this
  have HW : Hid (∀ q, Calls Tryd.prog 13 #[.slice (some ⟨h1, 0, none⟩) n n, .slice a2 n c2] (w3.drewN q) fun e w' => e = .returned (.bool true) ∧ ∃ q', w' = (w3.drewN q).drewN q') := hide2 (fun q => by
    have := words_any (w3.drewN q) _ _ _ _ _ _ N N (hI1.drewN q) (hi2.drewN q)
    rw [decide_eq_true rfl] at this
    exact this)
  have HO2 := hide2 hO2
  have HB3 := hide2 hB3
  have HBB3 := hide2 hBB3
  clear hO2 hrow2 hi2 hL1 hL2 hI1 hB1 hB2 hBB2 hB3
  go_wp2_with fail
  refine HL.out.mono ?_
  rintro e w4 ⟨rfl, q, rfl⟩
  clear HL
  have HW1 := HW.out q
  have HW2 := hide2 HW1
  clear HW1 HW
  go_wp2_with fail
  refine HW2.out.mono ?_
  rintro e w5 ⟨rfl, q2, rfl⟩
  clear HW2
  have hX0 : Fr (fun j => w1.heap.size ≤ j ∧ j < w2.heap.size) w3 ((w3.drewN q).drewN q2) := ((Fr.refl _ w3).drewN q).drewN q2
  have hO5 : Outs ((w3.drewN q).drewN q2) w1.heap.size r1 A us1 := ((HO1.out.below HB3.out).below (below_drewN _ _ _)).below (below_drewN _ _ _)
  have hN5 : Nb ((w3.drewN q).drewN q2) h1 N := (HB3.out.block h1 hh1l).trans HN1.out
  obtain ⟨wx, hwx⟩ : ∃ x, x = (w3.drewN q).drewN q2 := ⟨_, rfl⟩
  rw [← hwx] at hX0 hO5 hN5 ⊢
  clear hwx
  have HX0 := hide2 hX0
  have HO5 := hide2 hO5
  have HN5 := hide2 hN5
  clear hX0 hO5 hN5
  go_wp2
  go_loopw [17] (fun i wr => ∃ k : Nat, k ≤ plen ∧ i = .int .i64 k ∧ (∃ A', A'.length = plen ∧ (∀ j, (A'.getD j []).length = (A.getD j []).length) ∧ Outs wr w1.heap.size r1 A' us1) ∧ Nb wr h1 N ∧ Fr (fun j => w1.heap.size ≤ j ∧ j < w2.heap.size) w3 wr) (fun i _ => plen - (intOf i).toNat)
  case atStart => exact ⟨0, by omega, rfl, ⟨A, HAL.out, fun _ => rfl, HO5.out⟩, HN5.out, HX0.out⟩
  case round =>
    clear HX0 HO5 HN5
    obtain ⟨k, hk, rfl, ⟨A', hA1, hA2, hO⟩, hN, hF⟩ := hrel
    by_cases hkl : k < plen
    · have hkl2 : (k : Int) < (plen : Int) := by omega
      obtain ⟨ao, cap, eu, -⟩ := hO.sl (i := k) (by omega)
      rw [hA2 k] at eu
      have hcb : Hid (∀ u : World, (∃ A', A'.length = plen ∧ (∀ j, (A'.getD j []).length = (A.getD j []).length) ∧ Outs u w1.heap.size r1 A' us1) → u.cell? ⟨r1, k, none⟩ = some (.slice ao (A.getD k []).length cap)) := hide2 (fun u hu => by
        obtain ⟨A2, b1, b2, b3⟩ := hu
        obtain ⟨ao2, cap2, e2, c2⟩ := b3.sl (i := k) (by omega)
        rw [b2 k, eu] at e2
        simp only [Value.slice.injEq] at e2
        obtain ⟨rfl, -, rfl⟩ := e2
        rw [b2 k] at c2
        exact c2)
      have hmx : (A.getD k []).length ≤ 9223372036854775807 := by
        obtain ⟨ao5, cap5, e5, hi5⟩ := row_ints (hO.row k)
        have h5 := hi5.2.1
        have h6 := hi5.2.2.1
        rw [hA2 k] at h5
        unfold maxLen at h6
        omega
      obtain ⟨al, hal⟩ : ∃ al, al = (A.getD k []).length := ⟨_, rfl⟩
      rw [← hal] at eu hmx hcb
      have HA := hide2 (show ∃ A', A'.length = plen ∧ (∀ j, (A'.getD j []).length = (A.getD j []).length) ∧ Outs wr w1.heap.size r1 A' us1 from ⟨A', hA1, hA2, hO⟩)
      have HEU := hide2 eu
      have HALL := hide2 hal
      have HNN := hide2 hN
      have HFF := hide2 hF
      clear eu hal hO hN hF hA2
      obtain ⟨wy, hwy⟩ : ∃ x, x = wr := ⟨_, rfl⟩
      subst hwy
      go_wp2
      go_loopw [18] (fun i wr => ∃ m : Nat, m ≤ al ∧ i = .int .i64 m ∧ (∃ A', A'.length = plen ∧ (∀ j, (A'.getD j []).length = (A.getD j []).length) ∧ Outs wr w1.heap.size r1 A' us1) ∧ Nb wr h1 N ∧ Fr (fun j => w1.heap.size ≤ j ∧ j < w2.heap.size) w3 wr) (fun i _ => al - (intOf i).toNat)
      case atStart => exact ⟨0, by omega, rfl, HA.out, HNN.out, HFF.out⟩
      case round =>
        clear HA HNN HFF
        obtain ⟨m, hm, rfl, hA, hN, hF⟩ := hrel
        have c0 := hcb.out wr hA
        obtain ⟨A3, b1, b2, hO⟩ := hA
        have hr1l3 : r1 < wr.heap.size := (Array.getElem?_eq_some_iff.1 hO.blk).1
        by_cases hml : m < al
        · have e3 := HEU.out
          have hA3l : (A3.getD k []).length = al := by rw [b2 k, HALL.out]
          obtain ⟨g, cap3, e4⟩ := hO.form (i := k) (by omega)
          have e5 : us1.getD k nilS = .slice (some ⟨g, 0, none⟩) (A3.getD k []).length cap3 := e4
          rw [hA3l, e3] at e4
          simp only [Value.slice.injEq] at e4
          obtain ⟨eao, -, ecap⟩ := e4
          rw [eao] at c0
          have hro := hO.row k
          rw [e5] at hro
          have hgl := hro.lt g rfl
          have hc1 := hro.cellAt m (by omega)
          have hf1 := hro.frozenAt m
          have hcm : ∃ v, wr.cell? ⟨g, m, none⟩ = some v := by
            refine ⟨((A3.getD k []).map (Value.int .u64))[m]'(by rw [List.length_map]; omega), ?_⟩
            rw [hc1]
            exact List.getElem?_eq_getElem _
          obtain ⟨v0, hcm⟩ := hcm
          have hO2 := hO.put (k := m) (i := k) (by omega) e5 77
          have hg2 : g < w2.heap.size := by
            have hrow1 := HO1.out.row k
            rw [e5] at hrow1
            exact (hrow1.lt g rfl).2
          have hgh : g ≠ h1 := fun e6 => HNE1.out k (by rw [e5, ← e6]; rfl)
          have hN2 : Nb (wr.setCell ⟨g, m, none⟩ (.int .u64 77)) h1 N := hN.same (Below.heap_setCell _ _ _ _ (by simpa using Ne.symm hgh))
          have hF2 := hF.setCell (p := ⟨g, m, none⟩) (.inl ⟨hgl.1, hg2⟩) (.int .u64 77)
          have HXX := hide2 (show (∃ A', A'.length = plen ∧ (∀ j, (A'.getD j []).length = (A.getD j []).length) ∧ Outs (wr.setCell ⟨g, m, none⟩ (.int .u64 77)) w1.heap.size r1 A' us1) ∧ Nb (wr.setCell ⟨g, m, none⟩ (.int .u64 77)) h1 N ∧ Fr (fun j => w1.heap.size ≤ j ∧ j < w2.heap.size) w3 (wr.setCell ⟨g, m, none⟩ (.int .u64 77)) from
            ⟨⟨_, by simpa using b1, fun j => by
              rw [getD_set_list (by omega)]
              by_cases ej : j = k
              · rw [if_pos ej, List.length_set, ej]; exact b2 k
              · rw [if_neg ej]; exact b2 j, hO2⟩, hN2, hF2⟩)
          have hgl2 := hgl.2
          have hml2 : (m : Int) < (al : Int) := by omega
          clear hO hO2 hN hN2 hF hF2 hro hc1 e5 e3 b1 b2 hA3l ecap hgl
          go_wp2
          go_roundw
          case rel => exact ⟨m + 1, by omega, by go_num, HXX.out⟩
          case measure => simp [intOf]; omega
        · obtain rfl : al = m := by omega
          have HXX := hide2 (show (∃ A', A'.length = plen ∧ (∀ j, (A'.getD j []).length = (A.getD j []).length) ∧ Outs wr w1.heap.size r1 A' us1) ∧ Nb wr h1 N ∧ Fr (fun j => w1.heap.size ≤ j ∧ j < w2.heap.size) w3 wr from ⟨⟨A3, b1, b2, hO⟩, hN, hF⟩)
          clear hO hN hF b1 b2
          go_wp2
          go_roundw
          case rel => exact ⟨k + 1, by omega, by go_num, HXX.out⟩
          case measure => simp [intOf]; omega
    · obtain rfl : plen = k := by omega
      have HFF := hide2 hF
      have HNN := hide2 hN
      clear hO hN hF hA1 hA2
      go_wp2
      go_loopw [19] (fun i wr => ∃ m : Nat, m ≤ n ∧ i = .int .i64 m ∧ (∃ N', N'.length = n ∧ Nb wr h1 N') ∧ Fr (fun j => w1.heap.size ≤ j ∧ j < w2.heap.size) w3 wr) (fun i _ => n - (intOf i).toNat)
      case atStart => exact ⟨0, by omega, rfl, ⟨N, HNL.out, HNN.out⟩, HFF.out⟩
      case round =>
        clear HFF HNN
        obtain ⟨m, hm, rfl, ⟨N', hN1, hN⟩, hF⟩ := hrel
        by_cases hmn : m < n
        · have c0 := hN.cell m (by omega)
          have f0 := hN.free m
          have hl := hN.lt
          have hN2 := hN.set m 77
          have hF2 := hF.setCell (p := ⟨h1, m, none⟩) (.inl ⟨hh1, hh1l⟩) (.int .u64 77)
          have hmn2 : (m : Int) < (n : Int) := by omega
          have HXX := hide2 (show (∃ N', N'.length = n ∧ Nb (wr.setCell ⟨h1, m, none⟩ (.int .u64 77)) h1 N') ∧ Fr (fun j => w1.heap.size ≤ j ∧ j < w2.heap.size) w3 (wr.setCell ⟨h1, m, none⟩ (.int .u64 77)) from ⟨⟨_, by simpa using hN1, hN2⟩, hF2⟩)
          clear hN hN2 hF hF2 hN1
          generalize N'.getD m 0 = x at *
          go_wp2
          go_roundw
          case rel => exact ⟨m + 1, by omega, by go_num, HXX.out⟩
          case measure => simp [intOf]; omega
        · obtain rfl : n = m := by omega
          have hBw : Below w.heap.size w wr := HBB3.out.trans (hF.to (fun j hj h => by omega) HBB3.out.size)
          have hs6 := hBw.size
          have hO6 : Outs wr w2.heap.size r2 A us2 := HO2.out.fr hF (fun h => by omega) (fun j hj => hj.2)
          have HO6 := hide2 hO6
          have HBw := hide2 hBw
          have HR := hide2 (HRun.out wr hBw)
          clear hBw hO6 hF hN hN1
          go_wp2_with fail
          refine HR.out.mono ?_
          rintro e w7 ⟨r3, h3, us3, rfl, hO7, -, -, -, -, hB7⟩
          clear HR
          have hL1 : Lists w7 (some ⟨r3, 0, none⟩) plen plen (outR us3 A) := by
            have := hO7.lists (by rw [HAL.out]; exact hpl)
            rw [HAL.out] at this
            exact this
          have hL2 : Lists w7 (some ⟨r2, 0, none⟩) plen plen (outR us2 A) := by
            have := (HO6.out.below hB7).lists (by rw [HAL.out]; exact hpl)
            rw [HAL.out] at this
            exact this
          have HL := hide2 (lists_any w7 _ _ _ _ _ _ _ _ hL1 hL2)
          rw [outR_xs, outR_xs, decide_eq_true rfl] at HL
          have hB8 : Below w.heap.size w w7 := HBw.out.trans (hB7.mono hs6)
          have HB8 := hide2 hB8
          clear hL1 hL2 hO7 hB7 hB8
          have t1 : ((cnt : Int) == (cnt : Int)) = true := by simp
          go_wp2_with fail
          refine HL.out.mono ?_
          rintro e w8 ⟨rfl, q3, rfl⟩
          clear HL
          go_wp2
          go_ret
          exact ⟨rfl, HB8.out.trans (below_drewN _ _ _)⟩

theorem runs_walk (size : Int) (pao : Option Addr) (plen pcap : Nat) (Ps : List PrR) (xao : Option Addr) (xlen xcap : Nat) (xs : List Int) (w : World) (hT : Tab w) (hPs : Progs w pao plen pcap Ps) (hxs : Ints .i64 w xao xlen xcap xs) (hxb : xlen ≤ 140737488351232) :
    Calls Tryd.prog 3 #[.int .i64 size, .slice pao plen pcap, .slice xao xlen xcap] w fun e w' => e = .returned (.bool true) ∧ Below w.heap.size w w' := by
  cases hr : right size Ps with
  | false => exact runs_wrong size pao plen pcap Ps xao xlen xcap w hT hPs hr
  | true =>
    obtain ⟨n, rfl⟩ : ∃ n : Nat, size = n := ⟨size.toNat, by
      unfold right at hr
      simp only [Bool.and_eq_true, decide_eq_true_eq] at hr
      omega⟩
    exact runs_right n pao plen pcap Ps xao xlen xcap xs w hT hPs hxs hr hxb
end Go.Proofs.YtnpmldlnckbppaaDoor
