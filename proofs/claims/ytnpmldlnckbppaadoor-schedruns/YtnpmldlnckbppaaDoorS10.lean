/-
  The document's Run.
-/
import Derived.Test.YtnpmldlnckbppaaDoorS9
import Derived.Test.YtnpmldlnckbppaaDoorR3f
set_option linter.unusedVariables false
set_option linter.unusedSimpArgs false
namespace Go.Proofs.YtnpmldlnckbppaaDoor
open Go.RowKit

set_option maxRecDepth 100000 in
set_option maxHeartbeats 1000000 in
theorem RRun_wrong (w : World) (size : Int) (pao : Option Addr) (plen pcap : Nat) (Ps : List PrR) (x : Value) (hPs : Progs w pao plen pcap Ps) (hr : right size Ps = false) :
    Calls Tryd.prog 11 #[.int .i64 size, .slice pao plen pcap, x] w fun e w' => e = .returned (.tuple #[nilS, nilS, .int .i64 0, .int .i64 70]) ∧ Below w.heap.size w w' := by
  have HM := hide2 (Right_any w size pao plen pcap Ps hPs)
  rw [hr] at HM
  clear hPs
  go_enter Tryd.func11, Tryd.ntmps11
  go_wp2_with fail
  refine HM.out.mono ?_
  rintro e w1 ⟨rfl, hB1⟩
  go_wp2
  refine bodyPost_ret (v := .tuple #[nilS, nilS, .int .i64 0, .int .i64 70]) (by simp [results, Tryd.results11, go_sem]) rfl ⟨rfl, hB1⟩

theorem infoB : (Tryd.prog.info? 4).map (fun i => (i.zero, i.size, i.bytes)) = some (some (.bool false), 1, 1) := by kernel_rfl
theorem mk_u64s (n : Nat) (hn : n ≤ 65536) (u : World) : (Instr.makeSlice 26 (.int .i64 (n : Int)) (.int .i64 (n : Int))).run Tryd.prog u = .ok (.slice (some ⟨u.heap.size, 0, none⟩) n n) (u.alloc (.cells (madeCells #[.int .u64 0] n) 32)) := by
  obtain ⟨i0, hi, hz0, hz1, hz2⟩ := info_parts infoU
  have := run_make (P := Tryd.prog) u 26 32 i0 (.int .u64 0) Tryd.underlying26 hi hz0 .i64 .i64 n n (by omega) (by omega) (by rw [hz2]; omega) (by omega)
  rw [this, hz1]
  simp only [Nat.mul_one, Int.toNat_natCast, Value.cells]
theorem mk_bools (n : Nat) (hn : n ≤ 65536) (u : World) : (Instr.makeSlice 43 (.int .i64 (n : Int)) (.int .i64 (n : Int))).run Tryd.prog u = .ok (.slice (some ⟨u.heap.size, 0, none⟩) n n) (u.alloc (.cells (madeCells #[.bool false] n) 4)) := by
  obtain ⟨i0, hi, hz0, hz1, hz2⟩ := info_parts infoB
  have := run_make (P := Tryd.prog) u 43 4 i0 (.bool false) Tryd.underlying43 hi hz0 .i64 .i64 n n (by omega) (by omega) (by rw [hz2]; omega) (by omega)
  rw [this, hz1]
  simp only [Nat.mul_one, Int.toNat_natCast, Value.cells]
theorem made_bool (n : Nat) : (madeCells #[Value.bool false] n).toList = (List.replicate n false).map Value.bool := by
  apply List.ext_getElem
  · simp [madeCells]
  · intro i h1 h2
    simp [madeCells, Nat.mod_one]
theorem made_u64 (n : Nat) : (madeCells #[Value.int .u64 0] n).toList = (List.replicate n (0 : Int)).map (Value.int .u64) := by
  rw [made_rep]
theorem size_made (v : Value) (n : Nat) : (madeCells #[v] n).size = n := by simp [madeCells]

theorem mkRw {w : World} {B r g1 g2 n : Nat} (hr : w.heap[r]? = some (.cells #[.int .i64 (n : Int), .slice (some ⟨g1, 0, none⟩) n n, .slice (some ⟨g2, 0, none⟩) n n, .int .i64 0] 57 (0, 0)))
    (h1 : w.heap[g1]? = some (.cells (madeCells #[.int .u64 0] n) 32 (0, 0))) (h2 : w.heap[g2]? = some (.cells (madeCells #[.bool false] n) 4 (0, 0))) (hB : B ≤ r ∧ B ≤ g1 ∧ B ≤ g2) (hn : n ≤ 65536) :
    Rw w B r n (firstT n 0) (List.replicate n 0) 0 (.slice (some ⟨g1, 0, none⟩) n n) (.slice (some ⟨g2, 0, none⟩) n n) := by
  have e0 : firstT n 0 = List.replicate n false := by simp [firstT]
  rw [e0]
  have hm : n ≤ maxLen := by unfold maxLen; omega
  refine ⟨hr, ?_, ?_, by simp, hB.1, fun c => by rw [getD_rep]; decide, by simp, hn⟩
  · rw [List.length_replicate, ← made_bool]
    have el := size_made (Value.bool false) n
    generalize madeCells #[Value.bool false] n = Y at *
    exact ⟨by simp [el], .inr ⟨g2, n, _, rfl, hB.2.2, h2, Nat.le_refl _, hm, by simp [el], by rw [Nat.mul_one, List.take_of_length_le (by simp [el])]⟩⟩
  · rw [List.length_replicate, ← made_u64]
    have el := size_made (Value.int .u64 0) n
    generalize madeCells #[Value.int .u64 0] n = Y at *
    exact ⟨by simp [el], .inr ⟨g1, n, _, rfl, hB.2.1, h1, Nat.le_refl _, hm, by simp [el], by rw [Nat.mul_one, List.take_of_length_le (by simp [el])]⟩⟩

theorem getD_setV {us : List Value} {i j : Nat} {v : Value} (hi : i < us.length) : (us.set i v).getD j nilS = if j = i then v else us.getD j nilS := by
  simp only [List.getD, List.getElem?_set]
  by_cases h : i = j
  · subst h; simp [hi]
  · simp [h, Ne.symm h]

/-- One list of numbers has grown. -/
theorem Outs.step {X : Nat → Prop} {w w' : World} {B ob i : Nat} {A : List (List Int)} {us : List Value} {x : Int} {v' : Value} (h : Outs w B ob A us) (hi : i < A.length)
    (hblk : w'.heap[ob]? = some (.cells (us.set i v').toArray 26 (0, 0))) (hr : w'.ownsRow B 32 1 v' (A.getD i [] ++ [x]).length ((A.getD i [] ++ [x]).map (Value.int .u64)))
    (hn : v'.ownBlock = (us.getD i nilS).ownBlock ∨ ∀ j, v'.ownBlock = some j → w.heap.size ≤ j) (hF : Fr (fun j => j = ob ∨ (us.getD i nilS).ownBlock = some j ∨ X j) w w') (hX : ∀ j, X j → j < B) :
    Outs w' B ob (A.set i (A.getD i [] ++ [x])) (us.set i v') := by
  have hiu : i < us.length := by rw [h.len]; exact hi
  refine ⟨hblk, by simpa using h.len, fun j => ?_, fun j l k hne hk => ?_⟩
  · rw [getD_setV hiu, getD_set_list hi]
    by_cases e : j = i
    · rw [if_pos e, if_pos e]
      exact hr
    · rw [if_neg e, if_neg e]
      refine row_fr (h.row j) hF (fun k hk => ?_)
      rintro (e2 | e2 | e2)
      · obtain ⟨c, fz, hh⟩ := Go.Lib.ownsRow_kind (h.row j) k hk
        rw [e2, h.blk] at hh
        simp at hh
      · exact h.apart i j k (Ne.symm e) e2 hk
      · have a := hX k e2
        have b := ((h.row j).lt k hk).1
        omega
  · rw [getD_setV hiu] at hk ⊢
    by_cases e : j = i
    · have e2 : l ≠ i := fun h => hne (e.trans h.symm)
      rw [if_pos e] at hk
      rw [if_neg e2]
      rcases hn with hn | hn
      · rw [hn] at hk
        exact h.apart i l k (Ne.symm e2) hk
      · intro e3
        have h1 := ((h.row l).lt k e3).2
        have h2 := hn k hk
        omega
    · rw [if_neg e] at hk
      by_cases e2 : l = i
      · rw [if_pos e2]
        rcases hn with hn | hn
        · rw [hn]
          exact h.apart j i k e hk
        · intro e3
          have h1 := ((h.row j).lt k hk).2
          have h2 := hn k e3
          omega
      · rw [if_neg e2]
        exact h.apart j l k hne hk
theorem Outs.fr {X : Nat → Prop} {w w' : World} {B ob : Nat} {A : List (List Int)} {us : List Value} (h : Outs w B ob A us) (hF : Fr X w w') (h1 : ¬ X ob) (hX : ∀ j, X j → j < B) : Outs w' B ob A us :=
  { h with blk := (hF.block ob (Array.getElem?_eq_some_iff.1 h.blk).1 h1).trans h.blk, row := fun i => row_fr (h.row i) hF (fun j hj hx => by have a := hX j hx; have b := ((h.row i).lt j hj).1; omega) }

theorem Rw.fr2 {X : Nat → Prop} {w w' : World} {B r n : Nat} {R : List Bool} {H : List Int} {m : Int} {hv tv : Value} (h : Rw w B r n R H m hv tv) (hF : Fr X w w') (h1 : ¬ X r) (h2 : ∀ j, hv.ownBlock = some j → ¬ X j) (h3 : ∀ j, tv.ownBlock = some j → ¬ X j) : Rw w' B r n R H m hv tv :=
  { h with blk := (hF.block r h.lt h1).trans h.blk, tr := row_fr h.tr hF h3, hr := row_fr h.hr hF h2 }

def arA (w : World) (n : Nat) : World := ((w.alloc (.cells (madeCells #[.int .u64 0] n) 32)).alloc (.cells (madeCells #[.bool false] n) 4)).alloc (.cells #[.int .i64 (n : Int), .slice (some ⟨w.heap.size, 0, none⟩) n n, .slice (some ⟨w.heap.size + 1, 0, none⟩) n n, .int .i64 0] 57)
def arB (w : World) (n : Nat) : World := ((w.alloc (.cells (madeCells #[.bool false] n) 4)).alloc (.cells (madeCells #[.int .u64 0] n) 32)).alloc (.cells #[.int .i64 (n : Int), .slice (some ⟨w.heap.size + 1, 0, none⟩) n n, .slice (some ⟨w.heap.size, 0, none⟩) n n, .int .i64 0] 57)
theorem three_blk (w : World) (a b c : Obj) : (((w.alloc a).alloc b).alloc c).heap[w.heap.size]? = some a ∧ (((w.alloc a).alloc b).alloc c).heap[w.heap.size + 1]? = some b ∧ (((w.alloc a).alloc b).alloc c).heap[w.heap.size + 1 + 1]? = some c := by
  refine ⟨?_, ?_, ?_⟩
  · rw [blk_alloc _ _ _ (by simp; omega), blk_alloc _ _ _ (by simp)]
    exact heap_alloc_new _ _
  · rw [blk_alloc _ _ _ (by simp)]
    have := heap_alloc_new (w.alloc a) b
    simpa using this
  · have := heap_alloc_new ((w.alloc a).alloc b) c
    simpa using this
theorem arA_rw (w : World) (n : Nat) (hn : n ≤ 65536) : ∃ hv tv, Rw (arA w n).drew w.heap.size (w.heap.size + 1 + 1) n (firstT n 0) (List.replicate n 0) 0 hv tv ∧ Below w.heap.size w (arA w n).drew := by
  obtain ⟨b1, b2, b3⟩ := three_blk w (.cells (madeCells #[.int .u64 0] n) 32) (.cells (madeCells #[.bool false] n) 4) (.cells #[.int .i64 (n : Int), .slice (some ⟨w.heap.size, 0, none⟩) n n, .slice (some ⟨w.heap.size + 1, 0, none⟩) n n, .int .i64 0] 57)
  have hb : Below w.heap.size w (arA w n) := (((Below.refl _ w).alloc (Nat.le_refl _) _).alloc (by simp) _).alloc (by simp; omega) _
  exact ⟨_, _, mkRw (w := (arA w n).drew) b3 b1 b2 ⟨by omega, by omega, by omega⟩ hn, ⟨hb.os, hb.tape, hb.output, hb.size, hb.block⟩⟩
theorem arB_rw (w : World) (n : Nat) (hn : n ≤ 65536) : ∃ hv tv, Rw (arB w n).drew w.heap.size (w.heap.size + 1 + 1) n (firstT n 0) (List.replicate n 0) 0 hv tv ∧ Below w.heap.size w (arB w n).drew := by
  obtain ⟨b1, b2, b3⟩ := three_blk w (.cells (madeCells #[.bool false] n) 4) (.cells (madeCells #[.int .u64 0] n) 32) (.cells #[.int .i64 (n : Int), .slice (some ⟨w.heap.size + 1, 0, none⟩) n n, .slice (some ⟨w.heap.size, 0, none⟩) n n, .int .i64 0] 57)
  have hb : Below w.heap.size w (arB w n) := (((Below.refl _ w).alloc (Nat.le_refl _) _).alloc (by simp) _).alloc (by simp; omega) _
  exact ⟨_, _, mkRw (w := (arB w n).drew) b3 b2 b1 ⟨by omega, by omega, by omega⟩ hn, ⟨hb.os, hb.tape, hb.output, hb.size, hb.block⟩⟩

theorem firstT_full (n : Nat) : firstT n n = List.replicate n true := by simp [firstT]

set_option maxRecDepth 100000 in
set_option maxHeartbeats 16000000 in
theorem RRun_right (w : World) (n : Nat) (pao : Option Addr) (plen pcap : Nat) (Ps : List PrR) (xao : Option Addr) (xlen xcap : Nat) (xs : List Int) (hPs : Progs w pao plen pcap Ps) (hxs : Ints .i64 w xao xlen xcap xs) (hr : right n Ps = true) (hxb : xlen ≤ 140737488351232) :
    Calls Tryd.prog 11 #[.int .i64 (n : Int), .slice pao plen pcap, .slice xao xlen xcap] w fun e w' => ∃ r hv us, e = .returned (.tuple #[.slice (some ⟨r, 0, none⟩) plen plen, hv, .int .i64 ((runs (ops Ps) xs (St.start n Ps.length)).n : Int), .int .i64 0]) ∧
      Outs w' w.heap.size r (runs (ops Ps) xs (St.start n Ps.length)).A us ∧ w'.ownsRow w.heap.size 32 1 hv n ((runs (ops Ps) xs (St.start n Ps.length)).N.map (Value.int .u64)) ∧ Below w.heap.size w w' ∧ w.heap.size ≤ r := by
  obtain ⟨h1, h2, h3, hok⟩ := right_parts hr
  obtain ⟨iu, hiu_, zu0, zu1, zu2⟩ := info_parts infoU
  have hplen : Ps.length = plen := hPs.out.1
  have HM := hide2 (Right_any w n pao plen pcap Ps hPs)
  rw [hr] at HM
  have hmu := mk_u64s n h2
  have hmb := mk_bools n h2
  have hml := mk_lists plen (by omega)
  have HAA : ∀ u, Hid (∃ hv tv, Rw (arA u n).drew u.heap.size (u.heap.size + 1 + 1) n (firstT n 0) (List.replicate n 0) 0 hv tv ∧ Below u.heap.size u (arA u n).drew) := fun u => hide2 (arA_rw u n h2)
  have HBB : ∀ u, Hid (∃ hv tv, Rw (arB u n).drew u.heap.size (u.heap.size + 1 + 1) n (firstT n 0) (List.replicate n 0) 0 hv tv ∧ Below u.heap.size u (arB u n).drew) := fun u => hide2 (arB_rw u n h2)
  unfold arA at HAA
  unfold arB at HBB
  generalize madeCells #[.int .u64 0] n = Yu at *
  generalize madeCells #[.bool false] n = Yb at *
  have HPs := hide2 hPs
  have HXS := hide2 hxs
  have HXL := hide2 hxs.1
  have HPL := hide2 hplen
  have hplen' : plen ≤ 16 := by omega
  clear hPs hxs hplen
  go_enter Tryd.func11, Tryd.ntmps11
  go_wp2_with fail
  refine HM.out.mono ?_
  rintro e w1 ⟨rfl, hB1⟩
  clear HM
  have hs1 := hB1.size
  have HA := HAA w1
  have HB := HBB w1
  clear HAA HBB
  go_wp2
  go_region
  all_goals
    have HD : Hid (∃ x, x = (((w1.alloc (Obj.cells Yu 32)).alloc (Obj.cells Yb 4)).alloc (Obj.cells #[Value.int .i64 (n : Int), Value.slice (some ⟨w1.heap.size, 0, none⟩) n n, Value.slice (some ⟨w1.heap.size + 1, 0, none⟩) n n, Value.int .i64 0] 57)).drew) := hide2 ⟨_, rfl⟩
    have HE : Hid (∃ x, x = (((w1.alloc (Obj.cells Yb 4)).alloc (Obj.cells Yu 32)).alloc (Obj.cells #[Value.int .i64 (n : Int), Value.slice (some ⟨w1.heap.size + 1, 0, none⟩) n n, Value.slice (some ⟨w1.heap.size, 0, none⟩) n n, Value.int .i64 0] 57)).drew) := hide2 ⟨_, rfl⟩
    obtain ⟨WA, eA⟩ := HD.out
    obtain ⟨WB, eB⟩ := HE.out
    rw [← eA] at HA
    rw [← eB] at HB
    clear HD HE
    first
      | (rw [← eA]
         obtain ⟨hv, tv, hRw, hBw⟩ := HA.out
         clear HA HB eA eB
         generalize WA = W at *)
      | (rw [← eB]
         obtain ⟨hv, tv, hRw, hBw⟩ := HB.out
         clear HA HB eA eB
         generalize WB = W at *)
    obtain ⟨r, hrd⟩ : ∃ r, r = w1.heap.size + 1 + 1 := ⟨_, rfl⟩
    rw [← hrd]
    rw [← hrd] at hRw
    obtain ⟨B, hBd⟩ : ∃ B, B = w1.heap.size := ⟨_, rfl⟩
    rw [← hBd] at hRw hBw
    have hwB : w.heap.size ≤ B := by rw [hBd]; exact hs1
    have hBW : Below w.heap.size w W := hB1.trans (hBw.mono (by omega))
    have hBWs : B ≤ W.heap.size := by rw [hBd]; have := hBw.size; omega
    have HRw := hide2 hRw
    have HBW := hide2 hBW
    clear hRw hBW hBw hrd hBd hmu hmb hB1
    go_wp2
    go_loopw [12] (fun i wr => ∃ k : Nat, k ≤ n ∧ i = .int .i64 k ∧ Rw wr B r n (firstT n k) (List.replicate n 0) 0 hv tv ∧ Below w.heap.size w wr ∧ B ≤ wr.heap.size) (fun i _ => n - (intOf i).toNat)
    case atStart => exact ⟨0, by omega, rfl, HRw.out, HBW.out, hBWs⟩
    case round =>
      clear HRw HBW hBWs
      obtain ⟨k, hk, rfl, hRw, hBr, hBs⟩ := hrel
      have hfl : (firstT n k).length = n := firstT_len n k hk
      by_cases hkn : k < n
      · obtain ⟨c0, c1, c2, c3⟩ := hRw.cells
        obtain ⟨g, cap, etv, hgB, hcell⟩ := hRw.trow (by omega)
        subst etv
        obtain ⟨q0, q1⟩ := hcell k (by omega)
        have hR2 := hRw.flag k true
        rw [firstT_set n k hkn] at hR2
        have hB2 := hBr.setCell (p := ⟨g, k, none⟩) (by simp; omega) (.bool true)
        have hB3 : B ≤ (wr.setCell ⟨g, k, none⟩ (.bool true)).heap.size := by simpa using hBs
        have hrl := hRw.lt
        have hgl := (hRw.tr.lt g rfl).2
        have HX := hide2 (And.intro hR2 (And.intro hB2 hB3))
        have hkn2 : (k : Int) < ((firstT n k).length : Int) := by omega
        clear hR2 hB2 hB3 hcell hRw hBr
        generalize (firstT n k).getD k false = bb at *
        have HFL := hide2 hfl
        clear hfl
        generalize (firstT n k).length = fl at *
        have hkn3 : (k : Int) < (n : Int) := by omega
        go_wp2
        go_roundw
        case rel => exact ⟨k + 1, by omega, by go_num, HX.out⟩
        case measure => simp [intOf]; omega
      · obtain rfl : n = k := by omega
        rw [firstT_full] at hRw
        obtain ⟨wp, hwp⟩ : ∃ x, x = wr := ⟨_, rfl⟩
        subst hwp
        obtain ⟨ob, hobd⟩ : ∃ ob, ob = wp.heap.size := ⟨_, rfl⟩
        have hrl := hRw.lt
        have hvl : ∀ j, hv.ownBlock = some j → j < ob := fun j hj => by rw [hobd]; exact (hRw.hr.lt j hj).2
        have tvl : ∀ j, tv.ownBlock = some j → j < ob := fun j hj => by rw [hobd]; exact (hRw.tr.lt j hj).2
        have hrob : r < ob := by rw [hobd]; exact hrl
        have hOw : ∀ j, Ow r hv j → j < ob := fun j hj => by
          rcases hj with h | h
          · omega
          · exact hvl j h
        have hO0 : Outs (wp.alloc (.cells (Array.replicate plen nilS) 26)) ob ob (St.start n Ps.length).A (List.replicate plen nilS) := by
          refine ⟨by rw [hobd, heap_alloc_new]; simp, by simp [St.start, HPL.out], fun i => ?_, fun i j k2 hne hk2 => ?_⟩
          · have e1 : (List.replicate plen nilS).getD i nilS = nilS := getD_rep _ _ _
            have e2 : (St.start n Ps.length).A.getD i [] = [] := getD_rep _ _ _
            rw [e1, e2]
            exact ⟨rfl, .inl ⟨rfl, rfl⟩⟩
          · have e1 : (List.replicate plen nilS).getD i nilS = nilS := getD_rep _ _ _
            rw [e1] at hk2
            cases hk2
        have hR0 : Rw (wp.alloc (.cells (Array.replicate plen nilS) 26)) B r n (List.replicate n true) (St.start n Ps.length).N ((St.start n Ps.length).n : Int) hv tv := hRw.alloc _
        have hB0 : Below w.heap.size w (wp.alloc (.cells (Array.replicate plen nilS) 26)) := hBr.alloc hBr.size _
        have hbo : B ≤ ob := by rw [hobd]; exact hBs
        have hso : ob < (wp.alloc (.cells (Array.replicate plen nilS) 26)).heap.size := by simp; omega
        have HO0 := hide2 hO0
        have HR0 := hide2 hR0
        have HB0 := hide2 hB0
        have HVL := hide2 hvl
        have HTVL := hide2 tvl
        have HOW := hide2 hOw
        have HSO := hide2 hso
        clear hO0 hR0 hB0 hRw hBr hvl tvl hOw hso hfl hk hkn
        go_wp2
        rw [← hobd]
        clear hobd
        go_loopw [14, 15] (fun c i wr => ∃ k : Nat, k ≤ xlen ∧ i = .int .i64 k ∧ c = .int .i64 ((runs (ops Ps) (xs.take k) (St.start n Ps.length)).n : Int) ∧ (∃ us, Outs wr ob ob (runs (ops Ps) (xs.take k) (St.start n Ps.length)).A us) ∧ Rw wr B r n (List.replicate n true) (runs (ops Ps) (xs.take k) (St.start n Ps.length)).N ((runs (ops Ps) (xs.take k) (St.start n Ps.length)).n : Int) hv tv ∧ Below w.heap.size w wr ∧ ob < wr.heap.size) (fun _ i _ => xlen - (intOf i).toNat)
        case atStart => exact ⟨0, by omega, rfl, rfl, ⟨_, HO0.out⟩, HR0.out, HB0.out, HSO.out⟩
        case round =>
          clear HO0 HR0 HB0 HSO hml hrl hBs
          obtain ⟨k, hk, rfl, rfl, ⟨us, hO⟩, hRw, hBr, hso⟩ := hrel
          have hnk2 : (runs (ops Ps) (xs.take k) (St.start n Ps.length)).n ≤ xlen := by
            have h9 := (runs_n (Q := ops Ps) (xs.take k) (St.start n Ps.length)).1
            have : (xs.take k).length ≤ xlen := by simp; omega
            have e0 : (St.start n Ps.length).n = 0 := rfl
            omega
          have hAl : (runs (ops Ps) (xs.take k) (St.start n Ps.length)).A.length = plen := by
            rw [(runs_n (Q := ops Ps) (xs.take k) (St.start n Ps.length)).2.1]
            simp [St.start, HPL.out]
          by_cases hkl : k < xlen
          · obtain ⟨b, off, rfl, hbl, hcell⟩ := (HXS.out.keep hBr).num (by omega)
            have q0 := hcell k hkl
            have E1 := hide2 (runs_take (Q := ops Ps) (xs := xs) (s := St.start n Ps.length) (by rw [HXL.out]; exact hkl : k < xs.length))
            generalize runs (ops Ps) (xs.take k) (St.start n Ps.length) = s at *
            generalize xs.getD k 0 = x at *
            have hkl2 : (k : Int) < (xlen : Int) := by omega
            have HAl := hide2 hAl
            have HO := hide2 hO
            have HRw := hide2 hRw
            have HBr := hide2 hBr
            clear hcell hAl hO hRw hBr
            by_cases hx0 : x < 0
            · have hst : stp (ops Ps) s x = s := stp_out (by rw [HAl.out, HPL.out]) (.inl hx0)
              have t1 : decide (x < 0) = true := by simpa using hx0
              go_wp2
              go_quiet (fail)
              go_wp2
              go_roundw
              case rel =>
                refine ⟨k + 1, by omega, by go_num, ?_, ?_, ?_, ?_, by simpa using hso⟩
                · rw [E1.out, hst]
                · rw [E1.out, hst]
                  exact ⟨us, HO.out.fr (X := fun _ => False) (Fr.drewN (Fr.refl _ wr) _) (fun h => h) (fun _ h => h.elim)⟩
                · rw [E1.out, hst]
                  exact HRw.out.drewN _
                · exact HBr.out.trans (below_drewN _ _ _)
              case measure => simp [intOf]; omega
            · obtain ⟨i, rfl⟩ : ∃ i : Nat, x = i := ⟨x.toNat, by omega⟩
              have t1 : decide ((i : Int) < 0) = false := by simp
              by_cases hip : plen ≤ i
              · have hst : stp (ops Ps) s i = s := stp_out (by rw [HAl.out, HPL.out]) (.inr (by rw [HPL.out]; omega))
                have t2 : decide ((plen : Int) ≤ (i : Int)) = true := by simp; omega
                have t3 : decide (plen ≤ i) = true := by simpa using hip
                go_wp2
                go_quiet (fail)
                go_wp2
                go_roundw
                case rel =>
                  refine ⟨k + 1, by omega, by go_num, ?_, ?_, ?_, ?_, by simpa using hso⟩
                  · rw [E1.out, hst]
                  · rw [E1.out, hst]
                    exact ⟨us, HO.out.fr (X := fun _ => False) (Fr.drewN (Fr.refl _ wr) _) (fun h => h) (fun _ h => h.elim)⟩
                  · rw [E1.out, hst]
                    exact HRw.out.drewN _
                  · exact HBr.out.trans (below_drewN _ _ _)
                case measure => simp [intOf]; omega
              · have hil : i < plen := by omega
                obtain ⟨p, hp⟩ := some_at HPL.out hil
                have hpm : p ∈ Ps := List.mem_of_getElem? hp
                obtain ⟨b2, off2, rfl, hb2, c1⟩ := (HPs.out.keep HBr.out).at hp
                obtain ⟨hs, hoo⟩ := (HPs.out.keep HBr.out).ins p hpm
                obtain ⟨hol, hob⟩ := hok p hpm
                have hpl := hs.1
                have t2 : decide ((plen : Int) ≤ (i : Int)) = false := by simp; omega
                have t3 : decide (plen ≤ i) = false := by simpa using hip
                have hil2 : (i : Int) < (plen : Int) := by omega
                obtain ⟨ao3, cap3, eu, hsu⟩ := row_ints (HO.out.row i)
                have hiu : i < us.length := by rw [HO.out.len, HAl.out]; exact hil
                have c2 : wr.cell? ⟨ob, i, none⟩ = some (.slice ao3 (s.A.getD i []).length cap3) := by
                  rw [Go.Joins.cell_of_block HO.out.blk, ← eu]
                  simp [List.getD, List.getElem?_eq_getElem hiu]
                clear hsu
                by_cases hlt : (s.A.getD i []).length < p.len
                · obtain ⟨o, ho⟩ := some_at hpl hlt
                  have hom : o ∈ p.ops := List.mem_of_getElem? ho
                  have hnx : nxt (ops Ps) s.A i = some o := by unfold nxt; rw [ops_at hp]; exact ho
                  have hst : stp (ops Ps) s i = s.does i o := by unfold stp; rw [if_neg (by omega), Int.toNat_natCast, hnx]
                  have hbo' := hob o hom
                  unfold bad at hbo'
                  simp only [Bool.or_eq_false_iff, decide_eq_false_iff_not] at hbo'
                  have hoc : 0 ≤ o.c := by omega
                  have htk : tk (List.replicate n true) o.c = true := by
                    have : o.c.toNat < n := by omega
                    simp [tk, List.getElem?_replicate, this, hoc]
                  obtain ⟨b3, off3, epo, hb3, hc⟩ := hs.2.2.2 (by omega)
                  have r0 : wr.cell? ⟨b3, off3 + (s.A.getD i []).length * 4, none⟩ = some (.int .i64 o.k) := hc _ o ho 0 _ rfl
                  have r1 := hc _ o ho 1 _ rfl
                  have r2 := hc _ o ho 2 _ rfl
                  have r3 := hc _ o ho 3 _ rfl
                  rw [epo] at c1
                  have hDo : ∀ u : World, Rw u B r n (List.replicate n true) s.N (s.n : Int) hv tv → B ≤ u.heap.size → Calls Tryd.prog 25 #[.pointer (some ⟨r, 0, none⟩), opV o.k o.c o.a o.b] u fun e w' => e = .returned (.tuple #[.int .u64 (act o.k.toNat o.a o.b (s.N.getD o.c.toNat 0)).1, .int .i64 0]) ∧ Rw w' B r n (List.replicate n true) (s.N.set o.c.toNat (act o.k.toNat o.a o.b (s.N.getD o.c.toNat 0)).2) ((s.n : Int) + 1) hv tv ∧ Fr (Ow r hv) u w' := fun u hu hub => fDo_right hu hub o (hoo o hom) (by omega) hoc htk ⟨by omega, by omega⟩
                  have hOst : ∀ (w6 : World) (v' : Value), w6.heap[ob]? = some (.cells (us.set i v').toArray 26 (0, 0)) → w6.ownsRow ob 32 1 v' (s.A.getD i [] ++ [(act o.k.toNat o.a o.b (s.N.getD o.c.toNat 0)).1]).length ((s.A.getD i [] ++ [(act o.k.toNat o.a o.b (s.N.getD o.c.toNat 0)).1]).map (Value.int .u64)) → (v'.ownBlock = (us.getD i nilS).ownBlock ∨ ∀ j, v'.ownBlock = some j → wr.heap.size ≤ j) → Fr (fun j => j = ob ∨ (us.getD i nilS).ownBlock = some j ∨ Ow r hv j) wr w6 → Outs w6 ob ob (s.does i o).A (us.set i v') := fun w6 v' a1 a2 a3 a4 => HO.out.step (by rw [HAl.out]; exact hil) a1 a2 a3 a4 HOW.out
                  have hdn : ((s.does i o).n : Int) = (s.n : Int) + 1 := by simp [St.does]
                  have hdN : (s.does i o).N = s.N.set o.c.toNat (act o.k.toNat o.a o.b (s.N.getD o.c.toNat 0)).2 := rfl
                  have hrowi : wr.ownsRow ob 32 1 (us.getD i nilS) (s.A.getD i []).length ((s.A.getD i []).map (Value.int .u64)) := HO.out.row i
                  rw [← hst] at hOst hdn hdN
                  rw [← hdN] at hDo
                  generalize stp (ops Ps) s i = s2 at *
                  generalize (act o.k.toNat o.a o.b (s.N.getD o.c.toNat 0)).1 = y at *
                  have t4 : decide ((p.len : Int) ≤ ((s.A.getD i []).length : Int)) = false := decide_eq_false (by omega)
                  have t5 : decide (p.len ≤ (s.A.getD i []).length) = false := decide_eq_false (by omega)
                  have hal2 : ((s.A.getD i []).length : Int) < (p.len : Int) := by omega
                  have halb : (s.A.getD i []).length < 65536 := by omega
                  have HOST := hide2 hOst
                  have HRI := hide2 hrowi
                  have HDN := hide2 hdn
                  have hoB : Outs wr ob ob s.A us := HO.out
                  have hblk := hoB.blk
                  have HBLK := hide2 hblk
                  have HD1 : Hid (∀ m, Calls Tryd.prog 25 #[.pointer (some ⟨r, 0, none⟩), opV o.k o.c o.a o.b] ((wr.drewN m).drew) fun e w' => e = .returned (.tuple #[.int .u64 y, .int .i64 0]) ∧ Rw w' B r n (List.replicate n true) s2.N ((s.n : Int) + 1) hv tv ∧ Fr (Ow r hv) wr w') := hide2 (fun m => (hDo ((wr.drewN m).drew) ((HRw.out.drewN m).drewN 1) (by have := HBr.out.size; show B ≤ wr.heap.size; omega)).mono fun e w' ⟨a, b, c⟩ => ⟨a, b, Fr.trans ((Fr.drewN (Fr.refl (Ow r hv) wr) m).drew) c (fun j hj => .inl hj)⟩)
                  have HD2 : Hid (∀ m, Calls Tryd.prog 25 #[.pointer (some ⟨r, 0, none⟩), opV o.k o.c o.a o.b] (wr.drewN m) fun e w' => e = .returned (.tuple #[.int .u64 y, .int .i64 0]) ∧ Rw w' B r n (List.replicate n true) s2.N ((s.n : Int) + 1) hv tv ∧ Fr (Ow r hv) wr w') := hide2 (fun m => (hDo (wr.drewN m) (HRw.out.drewN m) (by have := HBr.out.size; show B ≤ wr.heap.size; omega)).mono fun e w' ⟨a, b, c⟩ => ⟨a, b, Fr.trans (Fr.drewN (Fr.refl (Ow r hv) wr) m) c (fun j hj => .inl hj)⟩)
                  rw [eu] at HOST HRI
                  clear hDo hOst hrowi hdn hdN hc hs hst hnx ho hom hoo hob hbo' hpl hblk hoB
                  clear eu
                  generalize hal : (s.A.getD i []).length = al at *
                  have HAL := hide2 hal
                  clear hal hlt
                  go_wp2
                  go_quiet (fail)
                  go_wp2
                  go_region_with (go_at_call 25; (first | refine (HD1.out _).mono ?_ | refine (HD2.out _).mono ?_); rintro e w5 ⟨rfl, hR5, hF5⟩)
                  all_goals
                    have hO5 : Outs w5 ob ob s.A us := HO.out.fr hF5 (fun h => absurd (HOW.out _ h) (by omega)) HOW.out
                    have hrow5 : w5.ownsRow ob 32 1 (.slice ao3 al cap3) al ((s.A.getD i []).map (Value.int .u64)) := row_fr HRI.out hF5 (fun j hj h => by have a := HOW.out j h; have b := (HRI.out.lt j hj).1; omega)
                    have k2 : w5.cell? ⟨ob, i, none⟩ = some (.slice ao3 al cap3) := (World.cell?_of_block (hF5.block ob hso (fun h => absurd (HOW.out _ h) (by omega)))).trans c2
                    have hblk5 := hO5.blk
                    have hf5 := Go.Joins.unfrozen_of_block hblk5 i
                    have hs5 := hF5.size
                    have hobl : ob < w5.heap.size := by omega
                    have HR5 := hide2 hR5
                    have HF5 := hide2 hF5
                    have HROW5 := hide2 hrow5
                    have HBLK5 := hide2 hblk5
                    have HNEW := hide2 (cell_one_new w5 (.int .u64 y) 32)
                    clear hR5 hF5 hrow5 hblk5 hO5 HD1 HD2 c1 c2 r0 r1 r2 r3 q0
                    go_wp2_with (at_builtin; refine Hid.out ?_)
                    refine hide2 ?_
                    refine wpList_append_own_at _ rfl _ _ 26 rfl ob 32 iu (.int .u64 0) 1 8 Tryd.underlying26 hiu_ zu0 zu1 zu2 rfl (by decide) (.slice ao3 al cap3) _ _ rfl (HROW5.out.alloc _) ⟨w5.heap.size, 0, none⟩ 1 1 [.int .u64 y] rfl rfl HNEW.out (by simp [Value.oneCell']) (by unfold maxLen; omega) (by omega) (by simp; omega) ?_
                    intro v' w6 hown6 hgrow6 _ hb6
                    obtain ⟨gt, capt, ev⟩ := row_succ hown6
                    have hnob : (Value.slice ao3 al cap3).ownBlock ≠ some ob := fun e => by
                      obtain ⟨c, fz, hh⟩ := Go.Lib.ownsRow_kind HROW5.out ob e
                      rw [HBLK5.out] at hh
                      simp at hh
                    have hblk6 := (hgrow6.block ob (by simp; omega) (fun e => hnob e.symm)).trans ((blk_alloc _ _ ob hobl).trans HBLK5.out)
                    have k6 : w6.cell? ⟨ob, i, none⟩ = some (.slice ao3 al cap3) := (World.cell?_of_block (hgrow6.block ob (by simp; omega) (fun e => hnob e.symm))).trans ((World.cell?_of_block (blk_alloc _ _ ob hobl)).trans k2)
                    have hf6 := Go.Joins.unfrozen_of_block hblk6 i
                    have hs6 := hgrow6.size
                    have hobl6 : ob < w6.heap.size := by simp at hs6; omega
                    have hnv : v'.ownBlock ≠ some ob := fun e => by
                      obtain ⟨c, fz, hh⟩ := Go.Lib.ownsRow_kind hown6 ob e
                      rw [hblk6] at hh
                      simp at hh
                    have hblk7 : (w6.setCell ⟨ob, i, none⟩ v').heap[ob]? = some (.cells (us.set i v').toArray 26 (0, 0)) := by
                      rw [Go.Joins.block_setCell hblk6]
                      simp
                    have hrow7 : (w6.setCell ⟨ob, i, none⟩ v').ownsRow ob 32 1 v' (s.A.getD i [] ++ [y]).length ((s.A.getD i [] ++ [y]).map (Value.int .u64)) := by
                      have := row_fr hown6 (Fr.setCell (p := ⟨ob, i, none⟩) (Fr.refl (fun j => j = ob) w6) (.inl rfl) v') (fun j hj e => hnv (by rw [hj, e]))
                      rw [List.length_append, HAL.out, List.map_append]
                      exact this
                    have hnew7 : v'.ownBlock = (Value.slice ao3 al cap3).ownBlock ∨ ∀ j, v'.ownBlock = some j → wr.heap.size ≤ j := by
                      rcases hb6 with h | h
                      · exact .inl h
                      · refine .inr (fun j hj => ?_)
                        rw [h] at hj
                        have e1 := Option.some.inj hj
                        simp at e1
                        omega
                    have F6 : Fr (fun j => j = ob ∨ (Value.slice ao3 al cap3).ownBlock = some j) w5 (w6.setCell ⟨ob, i, none⟩ v') := (((Fr.refl (fun j => j = ob ∨ (Value.slice ao3 al cap3).ownBlock = some j) w5).alloc (.cells #[.int .u64 y] 32)).trans (G := fun j => (Value.slice ao3 al cap3).ownBlock = some j) (Fr.grown hgrow6 (fun j e => e)) (fun j hj => .inl (.inr hj))).setCell (.inl (.inl rfl)) _
                    have F7 : Fr (fun j => j = ob ∨ (Value.slice ao3 al cap3).ownBlock = some j ∨ Ow r hv j) wr (w6.setCell ⟨ob, i, none⟩ v') := (HF5.out.mono (G := fun j => j = ob ∨ (Value.slice ao3 al cap3).ownBlock = some j ∨ Ow r hv j) (fun j _ h => .inr (.inr h))).trans F6 (fun j hj => .inl (by rcases hj with h | h; exact .inl h; exact .inr (.inl h)))
                    have hO7 := HOST.out _ v' hblk7 hrow7 hnew7 F7
                    have hui : ∀ j, (Value.slice ao3 al cap3).ownBlock = some j → ob ≤ j := fun j hj => (HROW5.out.lt j hj).1
                    have hR7 : Rw (w6.setCell ⟨ob, i, none⟩ v') B r n (List.replicate n true) s2.N (s2.n : Int) hv tv := by
                      rw [HDN.out]
                      refine HR5.out.fr2 F6 ?_ (fun j hj => ?_) (fun j hj => ?_)
                      · rintro (h | h)
                        · omega
                        · have := hui r h; omega
                      · have := HVL.out j hj
                        rintro (h | h)
                        · omega
                        · have := hui j h; omega
                      · have := HTVL.out j hj
                        rintro (h | h)
                        · omega
                        · have := hui j h; omega
                    have hB7 : Below w.heap.size w (w6.setCell ⟨ob, i, none⟩ v') := HBr.out.trans (F7.to (fun j hj => by
                      rintro (h | h | h)
                      · omega
                      · have := hui j h; omega
                      · rcases h with h | h
                        · have := HRw.out.low; omega
                        · have := (HRw.out.hr.lt j h).1; omega) HBr.out.size)
                    have hs7 : ob < (w6.setCell ⟨ob, i, none⟩ v').heap.size := by simpa using hobl6
                    have HX := hide2 (And.intro (show ∃ us, Outs (w6.setCell ⟨ob, i, none⟩ v') ob ob s2.A us from ⟨_, hO7⟩) (And.intro hR7 (And.intro hB7 hs7)))
                    clear hO7 hR7 hB7 hs7 F6 F7 hown6 hgrow6 hb6 hblk6 hblk7 hrow7 hnew7 hnv HNEW HROW5 HBLK5 HR5 HF5 hui
                    subst ev
                    go_frame
                    go_wp2
                    go_roundw
                    case rel =>
                      refine ⟨k + 1, by omega, by go_num, ?_, ?_⟩
                      · rw [E1.out, HDN.out]
                      · rw [E1.out]; exact HX.out
                    case measure => simp [intOf]; omega
                · have hst : stp (ops Ps) s i = s := by
                    unfold stp
                    rw [if_neg (by omega)]
                    have : nxt (ops Ps) s.A ((i : Int)).toNat = none := by
                      unfold nxt
                      rw [Int.toNat_natCast, ops_at hp]
                      exact List.getElem?_eq_none (by omega)
                    rw [this]
                  have t4 : decide ((p.len : Int) ≤ ((s.A.getD i []).length : Int)) = true := decide_eq_true (by omega)
                  have t5 : decide (p.len ≤ (s.A.getD i []).length) = true := decide_eq_true (by omega)
                  clear eu hpl hs
                  generalize (s.A.getD i []).length = al at *
                  go_wp2
                  go_quiet (fail)
                  go_wp2
                  go_roundw
                  case rel =>
                    refine ⟨k + 1, by omega, by go_num, ?_, ?_, ?_, ?_, by simpa using hso⟩
                    · rw [E1.out, hst]
                    · rw [E1.out, hst]
                      exact ⟨us, HO.out.fr (X := fun _ => False) (Fr.drewN (Fr.refl _ wr) _) (fun h => h) (fun _ h => h.elim)⟩
                    · rw [E1.out, hst]
                      exact HRw.out.drewN _
                    · exact HBr.out.trans (below_drewN _ _ _)
                  case measure => simp [intOf]; omega
          · obtain rfl : xlen = k := by omega
            have ext : xs.take xlen = xs := by rw [← HXL.out]; exact List.take_length
            rw [ext] at hO hRw hnk2 ⊢
            obtain ⟨c0, c1, c2, c3⟩ := hRw.cells
            have hrl := hRw.lt
            have hsl : (List.replicate n true).length = n := List.length_replicate
            have hrow : wr.ownsRow w.heap.size 32 1 hv n ((runs (ops Ps) xs (St.start n Ps.length)).N.map (Value.int .u64)) := by
              have := row_low (B' := w.heap.size) hRw.hr hwB
              rw [hsl] at this
              exact this
            have hvf : ∃ ao l c, hv = .slice ao l c := by
              rcases Go.Joins.ownsRow_forms hrow with ⟨e, -⟩ | ⟨g2, c2, e⟩
              · exact ⟨_, _, _, e⟩
              · exact ⟨_, _, _, e⟩
            obtain ⟨ao4, l4, c4, ehv⟩ := hvf
            have hO2 : Outs wr w.heap.size ob (runs (ops Ps) xs (St.start n Ps.length)).A us := { hO with row := fun i => row_low (hO.row i) (by omega) }
            have HX : Hid (∀ m, Outs (wr.drewN m) w.heap.size ob (runs (ops Ps) xs (St.start n Ps.length)).A us ∧ (wr.drewN m).ownsRow w.heap.size 32 1 hv n ((runs (ops Ps) xs (St.start n Ps.length)).N.map (Value.int .u64)) ∧ Below w.heap.size w (wr.drewN m)) := hide2 (fun m => ⟨hO2.fr (X := fun _ => False) (Fr.drewN (Fr.refl _ wr) _) (fun h => h) (fun _ h => h.elim), row_fr (G := fun _ => False) hrow (Fr.drewN (Fr.refl _ wr) _) (fun _ _ h => h), hBr.trans (below_drewN _ _ _)⟩)
            clear hO hRw hBr hrow hO2 ext hsl hAl
            subst ehv
            go_wp2
            go_quiet (fail)
            go_wp2
            refine bodyPost_ret (v := .tuple #[.slice (some ⟨ob, 0, none⟩) plen plen, .slice ao4 l4 c4, .int .i64 ((runs (ops Ps) xs (St.start n Ps.length)).n : Int), .int .i64 0]) (by simp [results, Tryd.results11, go_sem]) rfl ⟨ob, _, us, rfl, (HX.out _).1, (HX.out _).2.1, (HX.out _).2.2, by omega⟩
end Go.Proofs.YtnpmldlnckbppaaDoor
