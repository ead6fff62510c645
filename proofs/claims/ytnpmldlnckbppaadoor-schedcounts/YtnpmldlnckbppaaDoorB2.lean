/-
  SchedCounts' walk.
-/
import Derived.Test.YtnpmldlnckbppaaDoorB1
import Derived.Deep.DeepCutAuto
set_option linter.unusedVariables false
set_option linter.unusedSimpArgs false
namespace Go.Proofs.YtnpmldlnckbppaaDoor
open Go.RowKit

/-- How many additions each program has. -/
def nsOf (ms : List Int) (k : Nat) : List Nat := (ms.take k).map (nrm 20)
theorem nsOf_len (ms : List Int) (k : Nat) (h : k ≤ ms.length) : (nsOf ms k).length = k := by simp [nsOf]; omega
theorem nsOf_snoc (ms : List Int) (k : Nat) (h : k < ms.length) : nsOf ms (k + 1) = nsOf ms k ++ [nrm 20 (ms.getD k 0)] := by
  have e : ms.getD k 0 = ms[k] := by simp [List.getD, List.getElem?_eq_getElem h]
  unfold nsOf
  rw [← List.take_append_getElem h, List.map_append, e]
  rfl
/-- The programs so far. -/
structure Lx (w : World) (base : Nat) (v : Value) (G : Nat → Nat) (ns : List Nat) : Prop where
  row : w.ownsRow base 39 1 v ns.length (valsOf G ns)
  blk : ∀ j, j < ns.length → Ob w (G j) (ns.getD j 0) (ns.getD j 0) (List.replicate (ns.getD j 0) addOne)
theorem Lx.fr {X : Nat → Prop} {w w' : World} {base : Nat} {v : Value} {G : Nat → Nat} {ns : List Nat} (h : Lx w base v G ns) (hF : Fr X w w') (h1 : ∀ j, v.ownBlock = some j → ¬ X j) (h2 : ∀ j, j < ns.length → ¬ X (G j)) : Lx w' base v G ns :=
  ⟨row_fr h.row hF h1, fun j hj => (h.blk j hj).same (hF.block _ (h.blk j hj).lt (h2 j hj))⟩
theorem Lx.below {w w' : World} {base : Nat} {v : Value} {G : Nat → Nat} {ns : List Nat} (h : Lx w base v G ns) (hb : Below w.heap.size w w') : Lx w' base v G ns := h.fr (X := fun _ => False) (Fr.below hb) (fun _ _ h => h) (fun _ _ h => h)
theorem row_ob {w : World} {base g n k m : Nat} {v : Value} {os : List OpR} {xs : List Value} (h : w.ownsRow base 39 1 v m xs) (ho : Ob w g n k os) : v.ownBlock ≠ some g := fun e => by
  obtain ⟨c, fz, hh⟩ := Go.Lib.ownsRow_kind h g e
  obtain ⟨arr, h1, -⟩ := ho
  rw [h1] at hh
  simp at hh
theorem rep_at (n k : Nat) (h : k < n) : (List.replicate n addOne)[k]? = some addOne := by simp [List.getElem?_replicate, h]

/-- All picks: those that came in, then each program's number twenty times. -/
def allP (xs : List Int) (m : Nat) : List Int := xs ++ (List.range m).flatMap fun i : Nat => List.replicate 20 (i : Int)
theorem allP_count (xs : List Int) (m i : Nat) (h : i < m) : 20 ≤ (allP xs m).count (i : Int) := by
  unfold allP
  rw [List.count_append]
  have : 20 ≤ ((List.range m).flatMap fun i : Nat => List.replicate 20 (i : Int)).count (i : Int) := by
    induction m with
    | zero => omega
    | succ m ih =>
      rw [List.range_succ, List.flatMap_append, List.count_append]
      by_cases e : i = m
      · subst e
        simp
      · have := ih (by omega)
        omega
  omega
theorem allP_len (xs : List Int) (m : Nat) : (allP xs m).length = xs.length + m * 20 := by
  unfold allP
  rw [List.length_append]
  congr 1
  induction m with
  | zero => rfl
  | succ m ih => rw [List.range_succ, List.flatMap_append, List.length_append, ih]; simp; omega
/-- Within a program's twenty. -/
def allK (xs : List Int) (i k : Nat) : List Int := allP xs i ++ List.replicate k (i : Int)
theorem allK_zero (xs : List Int) (i : Nat) : allK xs i 0 = allP xs i := by simp [allK]
theorem allK_snoc (xs : List Int) (i k : Nat) : allK xs i (k + 1) = allK xs i k ++ [(i : Int)] := by simp [allK, List.replicate_succ']
theorem allK_full (xs : List Int) (i : Nat) : allK xs i 20 = allP xs (i + 1) := by
  unfold allK allP
  rw [List.range_succ, List.flatMap_append, List.append_assoc]
  simp
theorem allK_len (xs : List Int) (i k : Nat) : (allK xs i k).length = xs.length + i * 20 + k := by simp [allK, allP_len]

theorem Lx.progs {w : World} {base : Nat} {v : Value} {G : Nat → Nat} {ns : List Nat} (h : Lx w base v G ns) (hn : ∀ j, ns.getD j 0 ≤ 20) : ∃ ao cap, v = .slice ao ns.length cap ∧ Progs w ao ns.length cap (progOf G (adds ns)) := by
  have e1 : (adds ns).map List.length = ns := by simp [adds, Function.comp_def]
  have := progOf_progs (w := w) (base := base) (v := v) (G := G) (Q := adds ns) (by rw [adds_len, e1]; exact h.row) (fun j hj => by
    rw [adds_len] at hj
    rw [adds_at, List.length_replicate]
    exact h.blk j hj) (fun j => by rw [adds_at, List.length_replicate]; have := hn j; omega) (fun j o ho => by
    rw [adds_at] at ho
    obtain ⟨_, rfl⟩ := List.mem_replicate.1 ho
    exact ⟨by decide, by decide, by decide, by decide⟩)
  rw [adds_len] at this
  exact this
theorem right_adds (G : Nat → Nat) (ns : List Nat) (hl : ns.length ≤ 16) (hn : ∀ j, ns.getD j 0 ≤ 20) : right ((1 : Nat) : Int) (progOf G (adds ns)) = true := by
  unfold right
  rw [progOf_len, adds_len]
  simp only [Bool.and_eq_true, decide_eq_true_eq, List.all_eq_true]
  refine ⟨by omega, by omega, hl, fun p hp => ?_⟩
  obtain ⟨j, -, rfl⟩ := List.mem_map.1 hp
  simp only [adds_at, List.length_replicate]
  refine ⟨by have := hn j; omega, fun o ho => ?_⟩
  obtain ⟨_, rfl⟩ := List.mem_replicate.1 ho
  rfl
theorem nsOf_le (ms : List Int) (k j : Nat) (hm : ∀ x ∈ ms, I64 x) : (nsOf ms k).getD j 0 ≤ 20 := by
  unfold nsOf
  simp only [List.getD, List.getElem?_map]
  cases e : (ms.take k)[j]? with
  | none => simp
  | some x =>
    have hx : x ∈ ms := List.mem_of_mem_take (List.mem_of_getElem? e)
    have := (nrm_spec 20 x (by decide) (by decide) (hm x hx)).1
    simp
    omega

set_option maxRecDepth 100000 in
set_option maxHeartbeats 16000000 in
theorem counts_walk (mao : Option Addr) (mlen mcap : Nat) (ms : List Int) (xao : Option Addr) (xlen xcap : Nat) (xs : List Int) (w : World) (hT : Tab w) (hmb : ∀ x ∈ ms, I64 x) (hms : Ints .i64 w mao mlen mcap ms) (hxs : Ints .i64 w xao xlen xcap xs) (hnil : xao = none → xcap = 0) :
    Calls Tryd.prog 7 #[.slice mao mlen mcap, .slice xao xlen xcap] w fun e w' => e = .returned (.bool true) ∧ Below w.heap.size w w' := by
  have h0 := hT.1
  obtain ⟨is_, his, zs0, zs1, zs2⟩ := info_parts infoS
  obtain ⟨i0, hi0, z0, z1, z2⟩ := info_parts infoI2
  have HN := hide2 (shown_any w hT)
  have HMS := hide2 hms
  have HML := hide2 hms.1
  have HXS := hide2 hxs
  have hmm := hms.2.1
  have hmm2 := hms.2.2.1
  unfold maxLen at hmm2
  have HMB := hide2 hmb
  obtain ⟨M, hM⟩ : ∃ M, M = min mlen 8 := ⟨_, rfl⟩
  have hM8 : M ≤ 8 := by omega
  have hMm : M ≤ mlen := by omega
  have hMo : M < mlen → 8 ≤ M := by omega
  clear hms hxs hM hmb
  go_enter Tryd.func7, Tryd.ntmps7
  go_wp2_with fail
  refine HN.out.mono ?_
  rintro e w1 ⟨rfl, hB1⟩
  clear HN
  go_wp2
  go_loopw [6, 7, 8] (fun v c i wr => ∃ k : Nat, k ≤ M ∧ i = .int .i64 k ∧ c = .int .i64 ((nsOf ms k).sum : Nat) ∧ (nsOf ms k).sum ≤ k * 20 ∧ (∃ G, Lx wr w.heap.size v G (nsOf ms k)) ∧ Below w.heap.size w wr) (fun _ _ i _ => M - (intOf i).toNat)
  case atStart =>
    refine ⟨0, by omega, rfl, rfl, Nat.zero_le _, ⟨fun _ => 0, ⟨rfl, .inl ⟨rfl, rfl⟩⟩, fun j hj => ?_⟩, hB1⟩
    simp [nsOf] at hj
  case round =>
    clear hB1
    obtain ⟨k, hk, rfl, rfl, hsum, ⟨G, hL⟩, hB⟩ := hrel
    by_cases hkM : k < M
    · have hkl : k < mlen := by omega
      have hkms : k < ms.length := by rw [HML.out]; exact hkl
      obtain ⟨b, off, rfl, hbl, hcell⟩ := (HMS.out.keep hB).num (by omega)
      have q0 := hcell k hkl
      have E1 := hide2 (nsOf_snoc ms k hkms)
      have HNL := hide2 (nsOf_len ms k (by omega))
      have hx : I64 (ms.getD k 0) := HMB.out _ (by
        have e : ms.getD k 0 = ms[k] := by simp [List.getD, List.getElem?_eq_getElem hkms]
        rw [e]; exact List.getElem_mem _)
      obtain ⟨n1, n2, n3, n4, n5, n6⟩ := nrm_spec 20 (ms.getD k 0) (by decide) (by decide) hx
      generalize ms.getD k 0 = x at *
      generalize nrm 20 x = n at *
      generalize nsOf ms k = ns at *
      obtain ⟨Y, hY, hmk⟩ := mk_opsN n (by omega)
      have t1 : decide ((k : Int) < (mlen : Int)) = true := by simp; omega
      have t2 : decide (k < mlen) = true := by simp; omega
      have t3 : decide ((k : Int) < 8) = true := by simp; omega
      have hk2 : (k : Int) < (mlen : Int) := by omega
      clear hcell
      have HL := hide2 hL
      have HB := hide2 hB
      have hwsz := hB.size
      have HY := hide2 hY
      clear hL hB hY
      have hvf : ∃ ao cap, u6 = .slice ao k cap := by
        have h9 := HL.out.row
        rw [HNL.out] at h9
        rcases Go.Joins.ownsRow_forms h9 with ⟨e, h0⟩ | ⟨g2, c2, e⟩
        · exact ⟨none, 0, by rw [e, h0]⟩
        · exact ⟨_, _, e⟩
      obtain ⟨ao, cap, rfl⟩ := hvf
      go_wp2_with (at_builtin; refine Hid.out ?_)
      refine hide2 ?_
      obtain ⟨g, hgd⟩ : ∃ g, g = wr.heap.size := ⟨_, rfl⟩
      have hgw : w.heap.size ≤ g := by omega
      have HNEW := hide2 (cell_one_new (wr.alloc (.cells Y 42)) (.slice (some ⟨wr.heap.size, 0, none⟩) n n) 39)
      have HRow : Hid (wr.ownsRow w.heap.size 39 1 (.slice ao k cap) k (valsOf G ns)) := hide2 (by have := HL.out.row; rw [HNL.out] at this; exact this)
      refine wpList_append_own_at _ rfl _ _ 22 rfl w.heap.size 39 is_ nilS 1 24 Tryd.underlying22 his zs0 zs1 zs2 rfl (by decide) (.slice ao k cap) _ _ rfl ((HRow.out.alloc _).alloc _) ⟨(wr.alloc (.cells Y 42)).heap.size, 0, none⟩ 1 1 [.slice (some ⟨wr.heap.size, 0, none⟩) n n] (by simp [Act.eval]) rfl HNEW.out (by simp [Value.oneCell']) (by unfold maxLen; omega) (by omega) (by simp; omega) ?_
      intro v' w6 hown6 hgrow6 _ hb6
      obtain ⟨gt, capt, ev⟩ := row_succ hown6
      obtain ⟨G', hG'⟩ : ∃ G' : Nat → Nat, G' = fun j => if j = k then g else G j := ⟨_, rfl⟩
      have hG1 : ∀ j, j < k → G' j = G j := fun j hj => by rw [hG']; exact if_neg (by omega)
      have hG2 : G' k = g := by rw [hG']; exact if_pos rfl
      have hrow6 : w6.ownsRow w.heap.size 39 1 v' (k + 1) (valsOf G' (ns ++ [n])) := by
        rw [valsOf_snoc G G' ns n g (fun j hj => hG1 j (by rw [HNL.out] at hj; exact hj)) (by rw [HNL.out]; exact hG2), hgd]
        exact hown6
      have hown0 : ∀ (q N K : Nat) (os : List OpR), Ob wr q N K os → Ob w6 q N K os := fun q N K os ho => by
        refine ho.same ((hgrow6.block q (by have := ho.lt; simp; omega) (fun e => row_ob HRow.out ho e.symm)).trans ?_)
        exact (blk_alloc _ _ q (by have := ho.lt; simp; omega)).trans (blk_alloc _ _ q ho.lt)
      have hg6 : Ob w6 g n 0 (List.replicate n addOne) := by
        have h1 : Ob ((wr.alloc (.cells Y 42)).alloc (.cells #[.slice (some ⟨wr.heap.size, 0, none⟩) n n] 39)) g n 0 (List.replicate n addOne) := by
          refine ⟨Y, ?_, HY.out, by simp, fun j o hj => by omega⟩
          rw [hgd, blk_alloc _ _ _ (by simp)]
          exact heap_alloc_new _ _
        refine h1.same (hgrow6.block g h1.lt (fun e => ?_))
        have := (HRow.out.lt g e.symm).2
        omega
      have hblk6 : ∀ j, j < k → Ob w6 (G' j) (ns.getD j 0) (ns.getD j 0) (List.replicate (ns.getD j 0) addOne) ∧ G' j ≠ g := fun j hj => by
        have h1 := HL.out.blk j (by rw [HNL.out]; exact hj)
        rw [hG1 j hj]
        exact ⟨hown0 _ _ _ _ h1, by have := h1.lt; omega⟩
      have hB6 : Below w.heap.size w w6 := ((HB.out.alloc HB.out.size (.cells Y 42)).alloc (by simp; omega) (.cells #[.slice (some ⟨wr.heap.size, 0, none⟩) n n] 39)).trans ((Fr.grown (F := fun j => w.heap.size ≤ j) hgrow6 (fun j e => (HRow.out.lt j e).1)).to (fun j hj => by omega) (by simp; omega))
      have hel : (valsOf G' (ns ++ [n]))[k]? = some (.slice (some ⟨g, 0, none⟩) n n) := by
        rw [valsOf_at G' (ns ++ [n]) k (by rw [List.length_append, HNL.out]; simp), hG2]
        have e : (ns ++ [n]).getD k 0 = n := by
          have := HNL.out
          subst this
          simp [List.getD]
        rw [e]
        rfl
      have HX := hide2 (And.intro hrow6 (And.intro hg6 (And.intro hblk6 hB6)))
      have HEL := hide2 hel
      have HG1 := hide2 hG1
      have HG2 := hide2 hG2
      have hns : ns.sum + n ≤ (k + 1) * 20 := by omega
      have HNSUM : Hid ((nsOf ms (k + 1)).sum = ns.sum + n) := hide2 (by rw [E1.out, List.sum_append]; simp)
      clear hrow6 hg6 hblk6 hB6 hown6 hgrow6 hb6 hown0 hel hG1 hG2 hG' hgd HNEW HRow HY HB HL
      subst ev
      go_frame
      go_wp2
      go_loopw [10] (fun i wr => ∃ j : Nat, j ≤ n ∧ i = .int .i64 j ∧ wr.ownsRow w.heap.size 39 1 (.slice (some ⟨gt, 0, none⟩) (k + 1) capt) (k + 1) (valsOf G' (ns ++ [n])) ∧ Ob wr g n j (List.replicate n addOne) ∧ (∀ j, j < k → Ob wr (G' j) (ns.getD j 0) (ns.getD j 0) (List.replicate (ns.getD j 0) addOne) ∧ G' j ≠ g) ∧ Below w.heap.size w wr) (fun i _ => n - (intOf i).toNat)
      case atStart => exact ⟨0, by omega, rfl, HX.out⟩
      case round =>
        clear HX
        obtain ⟨j, hj, rfl, hrow, hO, hblk, hB⟩ := hrel
        by_cases hjn : j < n
        · have c0 := hrow.cellAt k (by omega)
          rw [HEL.out] at c0
          have hgl := hO.lt
          have hne : (Value.slice (some ⟨gt, 0, none⟩) (k + 1) capt).ownBlock ≠ some g := row_ob hrow hO
          have hgne : gt ≠ g := fun e => hne (by rw [e]; rfl)
          have hO2 := hO.put (o := addOne) (rep_at n j hjn)
          have hF : Fr (fun k => k = g) wr (put4 wr g j addOne) := put4_fr
          have hrow2 := row_fr hrow hF (fun l hl e => hne (by rw [hl, e]))
          have hblk2 : ∀ i, i < k → Ob (put4 wr g j addOne) (G' i) (ns.getD i 0) (ns.getD i 0) (List.replicate (ns.getD i 0) addOne) ∧ G' i ≠ g := fun i hi => ⟨(hblk i hi).1.same (hF.block _ (hblk i hi).1.lt (hblk i hi).2), (hblk i hi).2⟩
          have hB2 : Below w.heap.size w (put4 wr g j addOne) := hB.trans (hF.to (fun l hl e => by omega) hB.size)
          have hcs : ∀ t, t < 4 → (∃ v, wr.cell? ⟨g, j * 4 + t, none⟩ = some v) ∧ wr.frozen? ⟨g, j * 4 + t, none⟩ = false := fun t ht => by
            obtain ⟨arr, a1, a2, a3⟩ := hO
            refine ⟨⟨arr[j * 4 + t]'(by omega), ?_⟩, Go.Joins.unfrozen_of_block a1 _⟩
            rw [Go.Joins.cell_of_block a1]
            exact Array.getElem?_eq_getElem _
          obtain ⟨⟨v0, d0⟩, e0⟩ := hcs 0 (by decide)
          obtain ⟨⟨v1, d1⟩, e1⟩ := hcs 1 (by decide)
          obtain ⟨⟨v2, d2⟩, e2⟩ := hcs 2 (by decide)
          obtain ⟨⟨v3, d3⟩, e3⟩ := hcs 3 (by decide)
          rw [Nat.add_zero] at d0 e0
          have hgt := (hrow.lt gt rfl).2
          have HY2 := hide2 (And.intro hrow2 (And.intro hO2 (And.intro hblk2 hB2)))
          unfold put4 at HY2
          simp only [addOne] at HY2
          have hjn2 : (j : Int) < (n : Int) := by omega
          clear hrow hO hblk hB hrow2 hO2 hblk2 hB2 hF hcs hne
          go_wp2
          go_roundw
          case rel => exact ⟨j + 1, by omega, by go_num, HY2.out⟩
          case measure => simp [intOf]; omega
        · obtain rfl : n = j := by omega
          have HLX : Hid (Lx wr w.heap.size (.slice (some ⟨gt, 0, none⟩) (k + 1) capt) G' (nsOf ms (k + 1))) := hide2 (by
            rw [E1.out]
            have hl : (ns ++ [n]).length = k + 1 := by rw [List.length_append, HNL.out]; rfl
            refine ⟨by rw [hl]; exact hrow, fun i hi => ?_⟩
            rw [hl] at hi
            by_cases hik : i = k
            · have e : (ns ++ [n]).getD i 0 = n := by
                have := HNL.out
                subst this
                subst hik
                simp [List.getD]
              rw [e, hik, HG2.out]
              exact hO
            · have e : (ns ++ [n]).getD i 0 = ns.getD i 0 := by
                have : i < ns.length := by rw [HNL.out]; omega
                simp [List.getD, List.getElem?_append_left this]
              rw [e]
              exact (hblk i (by omega)).1)
          have HB2 := hide2 hB
          clear hrow hO hblk hB
          go_wp2
          go_roundw
          case rel => exact ⟨k + 1, by omega, by go_num, by rw [HNSUM.out]; go_num, by rw [HNSUM.out]; exact hns, ⟨_, HLX.out⟩, HB2.out⟩
          case measure => simp [intOf]; omega
    · obtain rfl : M = k := by omega
      have hguard : ¬ (M < mlen ∧ M < 8) := by omega
      have HNL := hide2 (nsOf_len ms M (by rw [HML.out]; exact hMm))
      have hn20 : ∀ j, (nsOf ms M).getD j 0 ≤ 20 := fun j => nsOf_le ms M j HMB.out
      generalize nsOf ms M = ns at *
      have HN20 := hide2 hn20
      clear hn20
      have hvf : ∃ ao cap, u6 = .slice ao M cap := by
        have h9 := hL.row
        rw [HNL.out] at h9
        rcases Go.Joins.ownsRow_forms h9 with ⟨e, h0⟩ | ⟨g2, c2, e⟩
        · exact ⟨none, 0, by rw [e, h0]⟩
        · exact ⟨_, _, e⟩
      obtain ⟨ao, cap, rfl⟩ := hvf
      obtain ⟨wq, hwq⟩ : ∃ x, x = wr := ⟨_, rfl⟩
      subst hwq
      have hPX : ∃ (pao : Option Addr) (P pcap : Nat) (ys : List Int), Ints .i64 w pao P pcap ys ∧ P ≤ 5000 ∧ (pao = none → pcap = 0) ∧ ((xlen ≤ 5000 ∧ pao = xao ∧ P = xlen ∧ pcap = xcap) ∨ (5000 < xlen ∧ P = 5000 ∧ ∀ u : World, (Instr.slice 23 (.slice xao xlen xcap) none (some (.int .i64 5000)) none).run Tryd.prog u = .ok (.slice pao P pcap) u)) := by
        by_cases h5 : xlen ≤ 5000
        · exact ⟨xao, xlen, xcap, xs, HXS.out, h5, hnil, .inl ⟨h5, rfl, rfl, rfl⟩⟩
        · obtain ⟨b, off, e, hbl, hc⟩ := HXS.out.2.2.2 (by omega)
          have h7 := HXS.out.2.1
          have h8 := HXS.out.2.2.1
          refine ⟨some ⟨b, off, none⟩, 5000, xcap, xs.take 5000, ⟨by rw [List.length_take, HXS.out.1]; omega, by omega, h8, fun _ => ⟨b, off, rfl, hbl, fun i x hi => hc i x (by
            rw [List.getElem?_take] at hi
            split at hi
            · exact hi
            · cases hi)⟩⟩, Nat.le_refl _, (fun h => by cases h), .inr ⟨by omega, rfl, fun u => ?_⟩⟩
          have := ints_h u xao xlen xcap 5000 (by omega)
          have hne : ¬ xcap = 0 := by omega
          rw [show ((5000 : Nat) : Int) = 5000 from rfl] at this
          rw [this, e]
          simp [sliced, hne, addr_add]
      obtain ⟨pao, P, pcap, ys, hpx, hP, hpn, hcase⟩ := hPX
      obtain ⟨Z, hZ, hmz⟩ := mk_zero P (by omega)
      obtain ⟨v', w', hap, hrow', hB', ao', cap', ev'⟩ := copy_all (u := wq) (base := w.heap.size) hZ hB.size (by omega) (hpx.keep hB) hpn
      have hYL : ys.length = P := hpx.1
      have HYL := hide2 hYL
      have HAP := hide2 hap
      have HRA := hide2 hrow'
      have hBq := hB.trans (hB'.mono hB.size)
      have HLq := hide2 (hL.below hB')
      have HBq := hide2 hBq
      clear hap hrow' hL hBq hpx hYL hpn HXS hnil
      subst ev'
      have hguard2 : (decide ((M : Int) < (mlen : Int)) = true ∧ decide ((M : Int) < 8) = false ∧ decide (M < mlen) = true ∧ decide (M < 8) = false) ∨ (decide ((M : Int) < (mlen : Int)) = false ∧ decide (M < mlen) = false) := by
        by_cases hM1 : M < mlen
        · refine .inl ⟨by simp; omega, by simp; omega, by simp; omega, by simp; omega⟩
        · refine .inr ⟨by simp; omega, by simp; omega⟩
      clear hguard hMo hMm HMS HML HMB
      have hcase2 : (pao = xao ∧ P = xlen ∧ pcap = xcap ∧ decide (5000 < (xlen : Int)) = false ∧ decide (5000 < xlen) = false) ∨ (decide (5000 < (xlen : Int)) = true ∧ decide (5000 < xlen) = true ∧ ∀ u : World, (Instr.slice 23 (.slice xao xlen xcap) none (some (.int .i64 5000)) none).run Tryd.prog u = .ok (.slice pao P pcap) u) := by
        rcases hcase with ⟨h5, a, b, c⟩ | ⟨h5, -, hsl⟩
        · exact .inl ⟨a, b, c, by simp; omega, by simp; omega⟩
        · exact .inr ⟨by simp; omega, by simp; omega, hsl⟩
      clear hcase
      have HG2 := hide2 hguard2
      have HC2 := hide2 hcase2
      clear hguard2 hcase2
      go_upto_region 5 with fail
      go_cut [31] (fun b wc => b = .bool false ∧ wc = wq)
      case first =>
        rcases HG2.out with ⟨t1, t2, t3, t4⟩ | ⟨t1, t3⟩
        · go_wp2
          go_meet
          exact ⟨rfl, rfl⟩
        · go_wp2
          go_meet
          exact ⟨rfl, rfl⟩
      case rest =>
        obtain ⟨rfl, hwc⟩ := hcut
        replace hwc := hwc.symm
        subst hwc
        go_upto_if 63 with fail
        go_cut [1] (fun v wc => v = .slice pao P pcap ∧ wc = wq)
        case first =>
          rcases HC2.out with ⟨rfl, rfl, rfl, t7, t8⟩ | ⟨t7, t8, hsl⟩
          · simp only [t7, t8]
            go_wp2
            go_meet
            exact ⟨rfl, rfl⟩
          · simp only [t7, t8]
            go_wp2
            go_meet
            exact ⟨rfl, rfl⟩
        case rest =>
        obtain ⟨rfl, hwc⟩ := hcut
        replace hwc := hwc.symm
        subst hwc
        go_wp2_with (at_builtin; refine Hid.out ?_)
        refine hide2 ?_
        refine wpList_append_eq rfl _ _ 23 rfl (.slice (some ⟨wq.heap.size, 0, none⟩) 0 P) (.slice pao P pcap) _ _ rfl rfl HAP.out ?_
        clear HAP hmz
        go_frame
        go_wp2
        go_loopw [11, 12] (fun v i wr => ∃ k : Nat, k ≤ M ∧ i = .int .i64 k ∧ wr.ownsRow w.heap.size 3 1 v (P + k * 20) ((allP ys k).map (Value.int .i64)) ∧ Lx wr w.heap.size (.slice ao M cap) G ns ∧ Below w.heap.size w wr) (fun _ i _ => M - (intOf i).toNat)
        case atStart =>
          refine ⟨0, by omega, rfl, ?_, HLq.out, HBq.out⟩
          have e : allP ys 0 = ys := by simp [allP]
          rw [e, Nat.zero_mul, Nat.add_zero]
          exact HRA.out
        case round =>
          clear HLq HBq HRA
          obtain ⟨k, hk, rfl, hrow, hL, hB⟩ := hrel
          by_cases hkM : k < M
          · have hkM2 : (k : Int) < (M : Int) := by omega
            obtain ⟨wy, hwy⟩ : ∃ x, x = wr := ⟨_, rfl⟩
            subst hwy
            have HR := hide2 hrow
            have HL := hide2 hL
            have HB := hide2 hB
            clear hrow hL hB
            go_wp2
            go_loopw [11, 13] (fun v i wr => ∃ j : Nat, j ≤ 20 ∧ i = .int .i64 j ∧ wr.ownsRow w.heap.size 3 1 v (P + k * 20 + j) ((allK ys k j).map (Value.int .i64)) ∧ Lx wr w.heap.size (.slice ao M cap) G ns ∧ Below w.heap.size w wr) (fun _ i _ => 20 - (intOf i).toNat)
            case atStart => exact ⟨0, by omega, rfl, by rw [allK_zero]; exact HR.out, HL.out, HB.out⟩
            case round =>
              clear HR HL HB
              obtain ⟨j, hj, rfl, hrow, hL, hB⟩ := hrel
              by_cases hj20 : j < 20
              · have hj2 : (j : Int) < 20 := by omega
                have hvf : ∃ ao3 cap3, u11 = .slice ao3 (P + k * 20 + j) cap3 := by
                  rcases Go.Joins.ownsRow_forms hrow with ⟨e, h0⟩ | ⟨g2, c2, e⟩
                  · exact ⟨none, 0, by rw [e, h0]⟩
                  · exact ⟨_, _, e⟩
                obtain ⟨ao3, cap3, rfl⟩ := hvf
                have hwsz := hB.size
                have HR := hide2 hrow
                have HL := hide2 hL
                have HB := hide2 hB
                have HNEW := hide2 (cell_one_new wr (.int .i64 (k : Int)) 3)
                clear hrow hL hB
                go_wp2_with (at_builtin; refine Hid.out ?_)
                refine hide2 ?_
                refine wpList_append_own_at _ rfl _ _ 23 rfl w.heap.size 3 i0 (.int .i64 0) 1 8 Tryd.underlying23 hi0 z0 z1 z2 rfl (by decide) (.slice ao3 (P + k * 20 + j) cap3) _ _ rfl (HR.out.alloc _) ⟨wr.heap.size, 0, none⟩ 1 1 [.int .i64 (k : Int)] rfl rfl HNEW.out (by simp [Value.oneCell']) (by unfold maxLen; omega) (by omega) (by simp; omega) ?_
                intro v4 w4 hown4 hgrow4 _ hb4
                obtain ⟨gt, capt, ev⟩ := row_succ hown4
                have hB4 : Below w.heap.size w w4 := (HB.out.alloc HB.out.size (.cells #[.int .i64 (k : Int)] 3)).trans ((Fr.grown (F := fun j => w.heap.size ≤ j) hgrow4 (fun j e => (HR.out.lt j e).1)).to (fun j hj => by omega) (by simp; omega))
                have hrow4 : w4.ownsRow w.heap.size 3 1 v4 (P + k * 20 + (j + 1)) ((allK ys k (j + 1)).map (Value.int .i64)) := by
                  rw [allK_snoc, List.map_append]
                  exact hown4
                obtain ⟨jj, hjj⟩ : ∃ jj, jj = j := ⟨_, rfl⟩
                rw [← hjj] at hgrow4 HR
                have hL4 : Lx w4 w.heap.size (.slice ao M cap) G ns := (HL.out.below ((Below.refl _ wr).alloc (Nat.le_refl _) (.cells #[.int .i64 (k : Int)] 3))).fr (X := fun j => (Value.slice ao3 (P + k * 20 + jj) cap3).ownBlock = some j) (Fr.grown hgrow4 (fun j e => e)) (fun l hl e => by
                  obtain ⟨c, fz, hh⟩ := Go.Lib.ownsRow_kind HR.out l e
                  obtain ⟨c2, fz2, hh2⟩ := Go.Lib.ownsRow_kind HL.out.row l hl
                  rw [hh] at hh2
                  simp at hh2) (fun l hl e => by
                  obtain ⟨c, fz, hh⟩ := Go.Lib.ownsRow_kind HR.out (G l) e
                  obtain ⟨arr, a1, -⟩ := HL.out.blk l hl
                  rw [a1] at hh
                  simp at hh)
                subst hjj
                have HX := hide2 (And.intro hrow4 (And.intro hL4 hB4))
                clear hrow4 hL4 hB4 hown4 hgrow4 hb4 HNEW HR HL HB
                subst ev
                go_frame
                go_wp2
                go_roundw
                case rel => exact ⟨jj + 1, by omega, by go_num, HX.out⟩
                case measure => simp [intOf]; omega
              · obtain rfl : j = 20 := by omega
                rw [allK_full] at hrow
                have HX := hide2 (show wr.ownsRow w.heap.size 3 1 u11 (P + (k + 1) * 20) ((allP ys (k + 1)).map (Value.int .i64)) ∧ Lx wr w.heap.size (.slice ao M cap) G ns ∧ Below w.heap.size w wr from ⟨by rw [show P + (k + 1) * 20 = P + k * 20 + 20 by omega]; exact hrow, hL, hB⟩)
                clear hrow hL hB
                go_wp2
                go_roundw
                case rel => exact ⟨k + 1, by omega, by go_num, HX.out⟩
                case measure => simp [intOf]; omega
          · obtain rfl : M = k := by omega
            have hnl := HNL.out
            have hB8 := hB.size
            obtain ⟨ao5, cap5, e5, hPr⟩ := hL.progs HN20.out
            rw [hnl] at e5 hPr
            simp only [Value.slice.injEq] at e5
            obtain ⟨rfl, -, rfl⟩ := e5
            obtain ⟨a9, c9, rfl, hAll⟩ := row_ints64 (xs := allP ys M) hrow (by rw [allP_len, HYL.out])
            have hrt := right_adds G ns (by omega) HN20.out
            have hRun := Run_right wr 1 ao M cap (progOf G (adds ns)) a9 (P + M * 20) c9 (allP ys M) hPr hAll (hT.below hB h0) hrt (by omega)
            rw [progOf_ops, progOf_len] at hRun
            have hcnt := cnt_runs ns (allP ys M) (by omega)
            have hdone := runs_all (adds ns) 1 (allP ys M) (fun i hi => by
              rw [adds_len, hnl] at hi
              rw [adds_at, List.length_replicate]
              have h1 := allP_count ys M i hi
              have h2 := HN20.out i
              omega)
            have hAl : (runs (adds ns) (allP ys M) (St.start 1 (adds ns).length)).A.length = M := by
              rw [(runs_alen _ _ _).1]
              simp [St.start, adds_len, hnl]
            generalize runs (adds ns) (allP ys M) (St.start 1 (adds ns).length) = s at *
            obtain ⟨-, hn2⟩ := hdone
            rw [adds_sum] at hn2
            obtain ⟨N, A, cn⟩ := s
            obtain ⟨hnum, hrise, hbd, hap2⟩ := hcnt
            simp only at hnum hrise hbd hap2 hn2 hAl hRun
            rw [hn2] at hnum hbd hRun
            subst hnum
            obtain ⟨tot, htot⟩ : ∃ tot, tot = ns.sum := ⟨_, rfl⟩
            rw [← htot] at hbd hRun hsum ⊢
            have hto : tot ≤ 160 := by omega
            have HR := hide2 hRun
            have HRISE := hide2 hrise
            have HBD := hide2 hbd
            have HAP2 := hide2 hap2
            have HAL := hide2 hAl
            have HB := hide2 hB
            obtain ⟨Zb, hZb, hmb⟩ := mk_bl (tot + 1) (by omega)
            have HZB := hide2 hZb
            clear hZb
            have u1 : IntKind.u64.wrap (tot : Int) = (tot : Int) := by rw [IntKind.wrap_u64]; omega
            have u2 : ((tot + 1 : Nat) : Int) = (tot : Int) + 1 := by omega
            rw [u2] at hmb
            clear hRun hrise hbd hap2 hAl hB hL hPr hrow hAll hrt hn2 htot hnl HNL
            go_wp2_with fail
            refine HR.out.mono ?_
            rintro e w3 ⟨r1, h1, us1, rfl, hO1, hN1, hh1, hr1, hne1, hB3⟩
            clear HR
            have hs3 := hB3.size
            have hBB3 : Below w.heap.size w w3 := HB.out.trans (hB3.mono hB8)
            have c0 := hN1.cell 0 (by simp)
            have e0 : ([(tot : Int)]).getD 0 0 = (tot : Int) := rfl
            rw [e0] at c0
            have hh1l := hN1.lt
            have hr1l : r1 < w3.heap.size := (Array.getElem?_eq_some_iff.1 hO1.blk).1
            have HO1 := hide2 (outs_below hO1 ((Below.refl _ w3).alloc (Nat.le_refl _) (.cells Zb 4)))
            have hBb0 : Bb (w3.alloc (.cells Zb 4)) w3.heap.size (List.replicate (tot + 1) false) := by
              unfold Bb
              rw [heap_alloc_new, HZB.out]
            have HBb0 := hide2 hBb0
            have HBB3 := hide2 (hBB3.alloc hBB3.size (.cells Zb 4))
            have HT3 := hide2 hs3
            obtain ⟨sb, hsb⟩ : ∃ sb, sb = w3.heap.size := ⟨_, rfl⟩
            rw [← hsb] at HBb0
            have hsbw : w.heap.size ≤ sb := by rw [hsb]; exact hBB3.size
            have hr1s : r1 < sb := by omega
            have HRL : Hid (∀ i j, (us1.getD i nilS).ownBlock = some j → j < sb) := hide2 (fun i j hj => by rw [hsb]; exact ((hO1.row i).lt j hj).2)
            clear hO1 hN1 hne1 hB3 hBB3 hBb0
            go_wp2
            rw [← hsb]
            clear hsb hmb
            go_loopw [19] (fun i wr => ∃ k : Nat, k ≤ M ∧ i = .int .i64 k ∧ (∃ S : List Bool, S.length = tot + 1 ∧ Bb wr sb S ∧ ∀ v : Nat, S.getD v false = true → ∃ i, i < k ∧ (v : Int) ∈ A.getD i []) ∧ (∃ B0, Outs wr B0 r1 A us1) ∧ Below w.heap.size w wr) (fun i _ => M - (intOf i).toNat)
            case atStart =>
              refine ⟨0, by omega, rfl, ⟨_, by simp, HBb0.out, fun v hv => ?_⟩, ⟨_, HO1.out⟩, HBB3.out⟩
              have : (List.replicate (tot + 1) false).getD v false = false := getD_rep _ _ _
              rw [this] at hv
              cases hv
            case round =>
              clear HBb0 HO1 HBB3
              obtain ⟨k, hk, rfl, ⟨S, hS1, hS2, hS3⟩, ⟨B0, hO⟩, hB⟩ := hrel
              by_cases hkM : k < M
              · have hkM2 : (k : Int) < (M : Int) := by omega
                obtain ⟨ao6, cap6, eu, c6⟩ := outs_sl hO (i := k) (by rw [HAL.out]; exact hkM)
                obtain ⟨ao7, cap7, eu7, hi7⟩ := row_ints (hO.row k)
                rw [eu] at eu7
                simp only [Value.slice.injEq] at eu7
                obtain ⟨rfl, -, rfl⟩ := eu7
                have hmx := hi7.2.1
                have hmx2 := hi7.2.2.1
                unfold maxLen at hmx2
                obtain ⟨wz, hwz⟩ : ∃ x, x = wr := ⟨_, rfl⟩
                subst hwz
                have HC6 : Hid (∀ u : World, u.heap[r1]? = wz.heap[r1]? → u.cell? ⟨r1, k, none⟩ = some (.slice ao6 (A.getD k []).length cap6)) := hide2 (fun u hu => (World.cell?_of_block hu).trans c6)
                have HI7 : Hid (∀ (u : World) (j : Nat), j < (A.getD k []).length → (∀ q, q < sb → u.heap[q]? = wz.heap[q]?) → ∃ b off, ao6 = some ⟨b, off, none⟩ ∧ b < sb ∧ u.cell? ⟨b, off + j, none⟩ = some (.int .u64 ((A.getD k []).getD j 0))) := hide2 (fun u j hj hu => by
                  obtain ⟨b, off, e, hbl, hc⟩ := hi7.num (by omega)
                  have hbs : b < sb := HRL.out k b (by rw [eu, e]; rfl)
                  exact ⟨b, off, e, hbs, (World.cell?_of_block (hu b hbs)).trans (hc j hj)⟩)
                have HS2 := hide2 hS2
                have HS3 := hide2 hS3
                have HB := hide2 hB
                have HO := hide2 hO
                have hrise := HRISE.out k
                have hbdk := HBD.out k
                have HRI := hide2 hrise
                have HBK := hide2 hbdk
                clear hS2 hS3 hB hO hi7 c6 eu hrise hbdk
                obtain ⟨Ak, hAk⟩ : ∃ Ak, Ak = A.getD k [] := ⟨_, rfl⟩
                rw [← hAk] at HC6 HI7 HRI HBK hmx
                have HAK := hide2 hAk
                clear hAk
                generalize hal : Ak.length = al at hmx HC6 HI7
                have HALN := hide2 hal
                clear hal
                go_wp2
                go_loopw [20, 21] (fun l i wr => ∃ (j : Nat) (last : Int), j ≤ al ∧ i = .int .i64 j ∧ l = .int .u64 last ∧ 0 ≤ last ∧ (∀ t, t < al → j ≤ t → last < Ak.getD t 0) ∧ (∃ S : List Bool, S.length = tot + 1 ∧ Bb wr sb S ∧ ∀ v : Nat, S.getD v false = true → (∃ i, i < k ∧ (v : Int) ∈ A.getD i []) ∨ (v : Int) ∈ Ak.take j) ∧ (∀ q, q < sb → wr.heap[q]? = wz.heap[q]?) ∧ Fr (fun q => q = sb) wz wr) (fun _ i _ => al - (intOf i).toNat)
                case atStart =>
                  refine ⟨0, 0, by omega, rfl, rfl, by omega, fun t ht _ => ?_, ⟨S, hS1, HS2.out, fun v hv => .inl (HS3.out v hv)⟩, fun _ _ => rfl, Fr.refl _ _⟩
                  have hm : Ak.getD t 0 ∈ Ak := by
                    have htl : t < Ak.length := by rw [HALN.out]; exact ht
                    have e : Ak.getD t 0 = Ak[t] := by simp [List.getD, List.getElem?_eq_getElem htl]
                    rw [e]
                    exact List.getElem_mem _
                  have := (HBK.out _ hm).1
                  omega
                case round =>
                  clear HS2 HS3
                  obtain ⟨j, last, hj, rfl, rfl, hl0, hlast, ⟨S, hS1, hS2, hS3⟩, hsame, hF⟩ := hrel
                  have d0 := HC6.out wr (hsame r1 hr1s)
                  have hr1w : r1 < wr.heap.size := by have := hS2.lt; omega
                  by_cases hjl : j < al
                  · obtain ⟨b, off, rfl, hbs, d1⟩ := HI7.out wr j hjl hsame
                    have hjA : j < Ak.length := by rw [HALN.out]; exact hjl
                    have ej : Ak.getD j 0 = Ak[j] := by simp [List.getD, List.getElem?_eq_getElem hjA]
                    have hmem : Ak.getD j 0 ∈ Ak := by rw [ej]; exact List.getElem_mem _
                    obtain ⟨hv1, hv2⟩ := HBK.out _ hmem
                    have hvl := hlast j hjl (Nat.le_refl _)
                    obtain ⟨vn, hvn⟩ : ∃ vn : Nat, Ak.getD j 0 = vn := ⟨(Ak.getD j 0).toNat, by omega⟩
                    have hvt : vn ≤ tot := by omega
                    have hseen : S.getD vn false = false := by
                      cases hx : S.getD vn false with
                      | false => rfl
                      | true =>
                        rcases hS3 vn hx with ⟨i, hik, hmi⟩ | hmt
                        · exact absurd hmi (HAP2.out k i (vn : Int) (by omega) (by rw [← HAK.out, ← hvn]; exact hmem))
                        · obtain ⟨t, ht1, ht2⟩ := List.getElem_of_mem hmt
                          have htj : t < j := by simp at ht1; omega
                          have htA : t < Ak.length := by omega
                          have e1 : Ak[t] = (vn : Int) := by simpa using ht2
                          have := List.pairwise_iff_getElem.1 HRI.out t j htA hjA htj
                          rw [e1, ← ej, hvn] at this
                          omega
                    have e2 := hS2.cell vn (by omega)
                    rw [hseen] at e2
                    have f2 := hS2.free vn
                    have hS4 := hS2.set vn true
                    have hsbl := hS2.lt
                    have hbw : b < wr.heap.size := by omega
                    have hbne : b ≠ sb := by omega
                    rw [hvn] at d1 hvl hv1
                    have t1 : decide ((vn : Int) ≤ last) = false := decide_eq_false (by omega)
                    have t2 : decide ((tot : Int) < (vn : Int)) = false := decide_eq_false (by omega)
                    have t3 : decide (tot < vn) = false := decide_eq_false (by omega)
                    have b1 : (vn : Int) < (tot : Int) + 1 := by omega
                    have b2 : (j : Int) < (al : Int) := by omega
                    have hr1n : r1 ≠ sb := by omega
                    have HXX := hide2 (show (∀ t, t < al → j + 1 ≤ t → (vn : Int) < Ak.getD t 0) ∧ (∃ S : List Bool, S.length = tot + 1 ∧ Bb (wr.setCell ⟨sb, vn, none⟩ (.bool true)) sb S ∧ ∀ v : Nat, S.getD v false = true → (∃ i, i < k ∧ (v : Int) ∈ A.getD i []) ∨ (v : Int) ∈ Ak.take (j + 1)) ∧ (∀ q, q < sb → (wr.setCell ⟨sb, vn, none⟩ (.bool true)).heap[q]? = wz.heap[q]?) ∧ Fr (fun q => q = sb) wz (wr.setCell ⟨sb, vn, none⟩ (.bool true)) from
                      ⟨fun t ht hjt => by
                        have htA : t < Ak.length := by rw [HALN.out]; exact ht
                        have e3 : Ak.getD t 0 = Ak[t] := by simp [List.getD, List.getElem?_eq_getElem htA]
                        have := List.pairwise_iff_getElem.1 HRI.out j t hjA htA (by omega)
                        rw [← ej, ← e3, hvn] at this
                        exact this,
                       ⟨_, by simpa using hS1, hS4, fun v hv => by
                        by_cases hvv : v = vn
                        · right
                          rw [List.take_add_one, List.getElem?_eq_getElem hjA, hvv, ← hvn, ej]
                          exact List.mem_append_right _ (by simp)
                        · have hv2 : S.getD v false = true := by
                            simp only [List.getD, List.getElem?_set] at hv ⊢
                            rw [if_neg (fun e => hvv e.symm)] at hv
                            exact hv
                          rcases hS3 v hv2 with h | h
                          · exact .inl h
                          · right
                            rw [List.take_add_one]
                            exact List.mem_append_left _ h⟩,
                       fun q hq => (Below.heap_setCell _ _ _ _ (by simp; omega)).trans (hsame q hq), hF.setCell (p := ⟨sb, vn, none⟩) (.inl rfl) _⟩)
                    clear hS2 hS3 hS4 hsame hF hlast hmem ej hseen hvn
                    go_wp2
                    go_roundw
                    case rel => exact ⟨j + 1, vn, by omega, by go_num, rfl, by omega, HXX.out⟩
                    case measure => simp [intOf]; omega
                  · obtain rfl : al = j := by omega
                    have HXX := hide2 (show (∃ S : List Bool, S.length = tot + 1 ∧ Bb wr sb S ∧ ∀ v : Nat, S.getD v false = true → ∃ i, i < k + 1 ∧ (v : Int) ∈ A.getD i []) ∧ (∃ B0, Outs wr B0 r1 A us1) ∧ Below w.heap.size w wr from
                      ⟨⟨S, hS1, hS2, fun v hv => by
                        rcases hS3 v hv with ⟨i, hi, hm⟩ | hm
                        · exact ⟨i, by omega, hm⟩
                        · exact ⟨k, by omega, by rw [← HAK.out]; exact List.mem_of_mem_take hm⟩⟩, ⟨B0, { HO.out with blk := (hsame r1 hr1s).trans HO.out.blk, row := fun i => row_fr (HO.out.row i) hF (fun q hq e => by have := HRL.out i q hq; omega) }⟩, HB.out.trans (hF.to (fun q hq e => by omega) HB.out.size)⟩)
                    clear hS2 hS3 hsame hF hlast
                    go_wp2
                    go_roundw
                    case rel => exact ⟨k + 1, by omega, by go_num, HXX.out⟩
                    case measure => simp [intOf]; omega
              · obtain rfl : M = k := by omega
                clear hO hS1 hS2 hS3
                go_wp2
                go_ret
                exact ⟨rfl, hB⟩
end Go.Proofs.YtnpmldlnckbppaaDoor
