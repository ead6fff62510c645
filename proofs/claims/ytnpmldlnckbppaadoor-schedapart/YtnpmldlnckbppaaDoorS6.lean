/-
  Run, of the program: its walk.
-/
import Derived.Test.YtnpmldlnckbppaaDoorS5
set_option linter.unusedVariables false
set_option linter.unusedSimpArgs false
namespace Go.Proofs.YtnpmldlnckbppaaDoor
open Go.RowKit

theorem right_parts {n : Nat} {Ps : List PrR} (h : right n Ps = true) : 1 ≤ n ∧ n ≤ 65536 ∧ Ps.length ≤ 16 ∧ ∀ p ∈ Ps, p.ops.length ≤ 65536 ∧ ∀ o ∈ p.ops, bad n o = false := by
  unfold right at h
  simp only [Bool.and_eq_true, decide_eq_true_eq, List.all_eq_true, Int.toNat_natCast, Bool.not_eq_true'] at h
  obtain ⟨h1, h2, h3, h4⟩ := h
  exact ⟨by omega, by omega, h3, fun p hp => ⟨(h4 p hp).1, fun o ho => (h4 p hp).2 o ho⟩⟩

theorem stp_out {Ps : List PrR} {s : St} {p : Int} (hl : s.A.length = Ps.length) (h : p < 0 ∨ (Ps.length : Int) ≤ p) : stp (ops Ps) s p = s := by
  unfold stp
  by_cases h1 : p < 0
  · rw [if_pos h1]
  · rw [if_neg h1]
    have : nxt (ops Ps) s.A p.toNat = none := by
      unfold nxt
      have e : (ops Ps).getD p.toNat [] = [] := by simp [ops, List.getD, List.getElem?_eq_none (show Ps.length ≤ p.toNat by omega)]
      rw [e]
      rfl
    rw [this]
theorem stp_nil {Ps : List PrR} {s : St} {i : Nat} {p : PrR} (hp : Ps[i]? = some p) (h : p.ops = []) : stp (ops Ps) s i = s := by
  unfold stp
  rw [if_neg (by omega)]
  have : nxt (ops Ps) s.A ((i : Int)).toNat = none := by
    unfold nxt
    rw [Int.toNat_natCast, ops_at hp, h]
    rfl
  rw [this]
theorem runs_n {Q : List (List OpR)} (xs : List Int) (s : St) : (runs Q xs s).n ≤ s.n + xs.length ∧ (runs Q xs s).A.length = s.A.length ∧ (runs Q xs s).N.length = s.N.length := by
  induction xs generalizing s with
  | nil => simp [runs]
  | cons x xs ih =>
    have h1 := ih (stp Q s x)
    have h2 := stp_len (Q := Q) (s := s) (p := x)
    have e : runs Q (x :: xs) s = runs Q xs (stp Q s x) := rfl
    rw [e, List.length_cons]
    omega

theorem stp_n {Q : List (List OpR)} {s : St} {i : Nat} : (stp Q s i).n = if (nxt Q s.A i).isSome then s.n + 1 else s.n := by
  unfold stp
  rw [if_neg (by omega), Int.toNat_natCast]
  cases nxt Q s.A i <;> rfl

theorem range_take {Ps : List PrR} {vs : Nat → Value} {k : Nat} (hk : k < Ps.length) : (((List.range k).map (outV Ps vs)) ++ List.replicate (Ps.length - k) nilS).set k (outV Ps vs k) = ((List.range (k + 1)).map (outV Ps vs)) ++ List.replicate (Ps.length - (k + 1)) nilS := by
  have : Ps.length - k = (Ps.length - (k + 1)) + 1 := by omega
  rw [this, List.replicate_succ, List.set_append, if_neg (by simp), List.range_succ]
  simp

set_option maxRecDepth 100000 in
set_option maxHeartbeats 8000000 in
theorem Run_right (w : World) (n : Nat) (pao : Option Addr) (plen pcap : Nat) (Ps : List PrR) (xao : Option Addr) (xlen xcap : Nat) (xs : List Int) (hPs : Progs w pao plen pcap Ps) (hxs : Ints .i64 w xao xlen xcap xs) (hT : Tab w) (hr : right n Ps = true) (hxb : xlen ≤ 140737488351232) :
    Calls Tryd.prog 10 #[.int .i64 (n : Int), .slice pao plen pcap, .slice xao xlen xcap] w fun e w' => ∃ r h us, e = .returned (.tuple #[.slice (some ⟨r, 0, none⟩) plen plen, .slice (some ⟨h, 0, none⟩) n n, .int .i64 ((runs (ops Ps) xs (St.start n Ps.length)).n : Int), .int .i64 0]) ∧
      Outs w' w.heap.size r (runs (ops Ps) xs (St.start n Ps.length)).A us ∧ Nb w' h (runs (ops Ps) xs (St.start n Ps.length)).N ∧ w.heap.size ≤ h ∧ w.heap.size ≤ r ∧ (∀ i, (us.getD i nilS).ownBlock ≠ some h) ∧ Below w.heap.size w w' := by
  obtain ⟨h1, h2, h3, hok⟩ := right_parts hr
  have h0 := hT.1
  have hplen : Ps.length = plen := hPs.out.1
  have hxl : xs.length = xlen := hxs.1
  have hxcap := hxs.2.1
  have hxmax := hxs.2.2.1
  unfold maxLen at hxmax
  have HM := hide2 (mayRun_any w n pao plen pcap Ps hPs)
  rw [hr] at HM
  have hmt := mk_tasks plen (by omega)
  have hml := mk_lists plen (by omega)
  have hsm : ∀ u : World, (u.alloc (.cells (madeCells #[.nilIface] plen) 50)).heap[u.heap.size]? = some (.cells (madeCells #[.nilIface] plen).toList.toArray 50 (0, 0)) := fun u => by rw [heap_alloc_new]
  have hms : (madeCells #[.nilIface] plen).toList.length = plen := by simp [madeCells]
  generalize madeCells #[.nilIface] plen = Y at hmt hsm hms
  go_enter Tryd.func10, Tryd.ntmps10
  go_wp2_with fail
  refine HM.out.mono ?_
  rintro e w1 ⟨rfl, hB1⟩
  have hT1 := hT.below hB1 h0
  have hs1 := hB1.size
  have HZ := hide2 (zeros_any n w1 hT1 h1 h2)
  clear HM
  go_wp2_with fail
  refine HZ.out.mono ?_
  rintro e w2 ⟨rfl, ⟨F, hA2⟩, hB2⟩
  have hs2 := hB2.size
  have hBB2 : Below w.heap.size w w2 := hB1.trans (hB2.mono hs1)
  generalize hd : w1.heap.size + 1 = d at hA2
  generalize hg : w1.heap.size = g at hA2 hd hs1
  have hdl := hA2.ab.lt
  have hgl := hA2.nb.lt
  generalize hBd : w2.heap.size = B at hdl hgl
  have hwB : w.heap.size ≤ B := by rw [← hBd]; exact hBB2.size
  clear HZ
  have hBt : Below w.heap.size w (w2.alloc (.cells Y 50)) := hBB2.alloc hBB2.size _
  have hAt : Aw (w2.alloc (.cells Y 50)) d g (List.replicate n true) (List.replicate n 0) 0 F := hA2.same (blk_alloc _ _ _ hA2.ab.lt) (blk_alloc _ _ _ hA2.nb.lt)
  have hMk0 : Mk (w2.alloc (.cells Y 50)) B d w2.heap.size Ps (fun _ => 0) 0 := by
    refine ⟨⟨Y.toList, hsm w2, by omega, fun i p hi => absurd hi (by omega)⟩, fun i p hi => absurd hi (by omega), fun i p hi => absurd hi (by omega), fun i j p q hi => absurd hi (by omega)⟩
  have hszt : B ≤ (w2.alloc (.cells Y 50)).heap.size := by simp; omega
  generalize htd : w2.heap.size = t at hMk0
  have htB : B ≤ t := by omega
  have htB2 : t ≤ B := by omega
  have HM0 := hide2 hMk0
  have HA0 := hide2 hAt
  have HB0 := hide2 hBt
  have HS0 := hide2 hszt
  have hwg : w.heap.size ≤ g := hs1
  have hwd : w.heap.size ≤ d := by omega
  have HTD := hide2 htd
  clear hMk0 hAt hBt hszt hA2 hB2 hBB2 hB1 hT1 hd hg hBd
  have hplen' : plen ≤ 16 := by omega
  have HPL := hide2 hplen
  clear hplen
  go_wp2
  go_loopw [31] (fun i wr => ∃ k : Nat, k ≤ plen ∧ i = .int .i64 k ∧ (∃ bs, Mk wr B d t Ps bs k) ∧ Aw wr d g (List.replicate n true) (List.replicate n 0) 0 F ∧ Below w.heap.size w wr ∧ B ≤ wr.heap.size) (fun i _ => plen - (intOf i).toNat)
  case atStart => exact ⟨0, by omega, rfl, ⟨_, HM0.out⟩, HA0.out, HB0.out, HS0.out⟩
  case round =>
    clear HM0 HA0 HB0 HS0 HTD
    obtain ⟨k, hk, rfl, ⟨bs, hMk⟩, hA, hB, hsz⟩ := hrel
    by_cases hkl : k < plen
    · obtain ⟨p, hp⟩ := some_at HPL.out hkl
      obtain ⟨b, off, rfl, hbl, q0⟩ := (hPs.keep hB).at hp
      have HK := hide2 (taskOf_any wr d p.ao p.len p.cap)
      have hkl2 : (k : Int) < (plen : Int) := by omega
      have htl := hMk.tb.lt
      obtain ⟨ts, ht1, ht2, ht3⟩ := hMk.tb
      have hkts : k < ts.length := by rw [ht2, HPL.out]; exact hkl
      have htc : wr.cell? ⟨t, k, none⟩ = some ts[k] := by rw [Go.Joins.cell_of_block ht1]; simp [List.getElem?_eq_getElem hkts]
      have htf := Go.Joins.unfrozen_of_block ht1 k
      by_cases hz : p.len = 0
      · have hM2 := mk_idle hMk hp hz
        rw [hz, if_pos rfl] at HK
        rw [hz] at hM2
        have et : taskV 0 (bs k) = .iface 73 (.agg #[]) := rfl
        have et2 : taskV 0 wr.heap.size = .iface 73 (.agg #[]) := rfl
        rw [et] at hM2
        rw [et2] at HK
        have hA2 : Aw (wr.setCell ⟨t, k, none⟩ (.iface 73 (.agg #[]))) d g (List.replicate n true) (List.replicate n 0) 0 F := hA.same (Below.heap_setCell _ _ _ _ (by simp; omega)) (Below.heap_setCell _ _ _ _ (by simp; omega))
        have hB2 : Below w.heap.size w (wr.setCell ⟨t, k, none⟩ (.iface 73 (.agg #[]))) := hB.setCell (p := ⟨t, k, none⟩) (by simp; omega) _
        have hs2 : B ≤ (wr.setCell ⟨t, k, none⟩ (.iface 73 (.agg #[]))).heap.size := by simpa using hsz
        have HX := hide2 (And.intro hM2 (And.intro hA2 (And.intro hB2 hs2)))
        rw [hz] at q0
        clear hM2 hA2 hB2 hs2 hMk hA hB et et2 ht1 ht2 ht3
        go_wp2_with fail
        refine HK.out.mono ?_
        rintro e w' ⟨rfl, rfl⟩
        clear HK
        go_wp2
        go_roundw
        case rel => exact ⟨k + 1, by omega, by go_num, ⟨_, HX.out.1⟩, HX.out.2⟩
        case measure => simp [intOf]; omega
      · have hM2 := hMk.more hp hsz
        rw [if_neg hz] at HK
        have et : taskV p.len wr.heap.size = .iface 74 (.pointer (some ⟨wr.heap.size, 0, none⟩)) := if_neg hz
        rw [et] at hM2 HK
        generalize hob : Obj.cells #[.pointer (some ⟨d, 0, none⟩), .slice p.ao p.len p.cap, nilS] 76 = ob at hM2 HK
        have hA2 : Aw ((wr.alloc ob).setCell ⟨t, k, none⟩ (.iface 74 (.pointer (some ⟨wr.heap.size, 0, none⟩)))) d g (List.replicate n true) (List.replicate n 0) 0 F := (hA.same (w' := wr.alloc ob) (blk_alloc _ _ _ hA.ab.lt) (blk_alloc _ _ _ hA.nb.lt)).same (Below.heap_setCell _ _ _ _ (by simp; omega)) (Below.heap_setCell _ _ _ _ (by simp; omega))
        have hB2 : Below w.heap.size w ((wr.alloc ob).setCell ⟨t, k, none⟩ (.iface 74 (.pointer (some ⟨wr.heap.size, 0, none⟩)))) := (hB.alloc hB.size ob).setCell (p := ⟨t, k, none⟩) (by simp; omega) _
        have hs2 : B ≤ ((wr.alloc ob).setCell ⟨t, k, none⟩ (.iface 74 (.pointer (some ⟨wr.heap.size, 0, none⟩)))).heap.size := by simp; omega
        have HX := hide2 (And.intro hM2 (And.intro hA2 (And.intro hB2 hs2)))
        have htc2 : (wr.alloc ob).cell? ⟨t, k, none⟩ = some ts[k] := (World.cell?_of_block (blk_alloc _ _ _ htl)).trans htc
        have htf2 : (wr.alloc ob).frozen? ⟨t, k, none⟩ = false := Go.Joins.unfrozen_of_block ((blk_alloc _ _ _ htl).trans ht1) k
        clear hM2 hA2 hB2 hs2 hMk hA hB et ht1 ht2 ht3
        have htl2 : t < (wr.alloc ob).heap.size := by simp; omega
        generalize hwa : wr.alloc ob = wa at *
        clear hwa
        go_wp2_with fail
        refine HK.out.mono ?_
        rintro e w' ⟨rfl, rfl⟩
        clear HK
        go_wp2
        go_roundw
        case rel => exact ⟨k + 1, by omega, by go_num, ⟨_, HX.out.1⟩, HX.out.2⟩
        case measure => simp [intOf]; omega
    · obtain rfl : plen = k := by omega
      have hTk : Tks wr B d g Ps bs (fun _ => nilS) (List.replicate Ps.length []) := by
        rw [← HPL.out] at hMk
        exact hMk.tks hPs
      have hTb : Tb wr t Ps bs Ps.length := by rw [HPL.out]; exact hMk.tb
      clear hMk hkl
      have hgB : g < B := hgl
      obtain ⟨wq, hwq⟩ : ∃ x, x = wr := ⟨_, rfl⟩
      subst hwq
      have HPs := hide2 hPs
      have HXS := hide2 hxs
      clear hPs hxs hms hsm hmt htd
      go_wp2
      go_loopw [14, 45] (fun c i wr => ∃ k : Nat, k ≤ xlen ∧ i = .int .i64 k ∧ c = .int .i64 ((runs (ops Ps) (xs.take k) (St.start n Ps.length)).n : Int) ∧ (∃ vs, Tks wr B d g Ps bs vs (runs (ops Ps) (xs.take k) (St.start n Ps.length)).A) ∧ Aw wr d g (List.replicate n true) (runs (ops Ps) (xs.take k) (St.start n Ps.length)).N ((runs (ops Ps) (xs.take k) (St.start n Ps.length)).n : Int) F ∧ Tb wr t Ps bs Ps.length ∧ Below w.heap.size w wr ∧ B ≤ wr.heap.size) (fun _ i _ => xlen - (intOf i).toNat)
      case atStart => exact ⟨0, by omega, rfl, rfl, ⟨_, hTk⟩, hA, hTb, hB, hsz⟩
      case round =>
        clear hTk hA hTb hB hsz
        obtain ⟨k, hk, rfl, rfl, ⟨vs, hTk⟩, hA, hTb, hB, hsz⟩ := hrel
        have hnk := (runs_n (Q := ops Ps) (xs.take k) (St.start n Ps.length)).1
        have hnk2 : (runs (ops Ps) (xs.take k) (St.start n Ps.length)).n ≤ xlen := by
          have : (xs.take k).length ≤ xlen := by simp; omega
          have e0 : (St.start n Ps.length).n = 0 := rfl
          omega
        clear hnk
        by_cases hkl : k < xlen
        · obtain ⟨b, off, rfl, hbl, hcell⟩ := (HXS.out.keep hB).num (by omega)
          have q0 := hcell k hkl
          have E1 := hide2 (runs_take (Q := ops Ps) (xs := xs) (s := St.start n Ps.length) (by omega : k < xs.length))
          generalize runs (ops Ps) (xs.take k) (St.start n Ps.length) = s at *
          generalize xs.getD k 0 = x at *
          have hkl2 : (k : Int) < (xlen : Int) := by omega
          clear hcell
          have htl := hTb.lt
          by_cases hout : x < 0 ∨ (plen : Int) ≤ x
          · have hst : stp (ops Ps) s x = s := stp_out hTk.len (by rw [HPL.out]; exact hout)
            have HPk := hide2 (picked_out wr (some ⟨t, 0, none⟩) plen plen x hout)
            have HI := hide2 (idle_any wr)
            clear hout
            have HTk := hide2 hTk
            have HA := hide2 hA
            have HTb := hide2 hTb
            have HB := hide2 hB
            have HSZ := hide2 hsz
            clear hTk hA hTb hB
            go_wp2_with fail
            refine HPk.out.mono ?_
            rintro e w3 ⟨rfl, rfl⟩
            clear HPk
            go_wp2_with fail
            refine HI.out.mono ?_
            rintro e w4 ⟨rfl, hBi⟩
            clear HI
            have hs4 := hBi.size
            have hB4 : Below w.heap.size w w4 := HB.out.trans (hBi.mono (by have := HB.out.size; omega))
            go_wp2
            go_roundw
            case rel =>
              refine ⟨k + 1, by omega, by go_num, ?_, ?_, ?_, ?_, hB4, by have := HSZ.out; omega⟩
              · rw [E1.out, hst]
              · rw [E1.out, hst]
                exact ⟨_, HTk.out.below hBi⟩
              · rw [E1.out, hst]
                exact HA.out.same (hBi.block _ HA.out.ab.lt) (hBi.block _ HA.out.nb.lt)
              · exact HTb.out.same (hBi.block _ htl)
            case measure => simp [intOf]; omega
          · obtain ⟨i, rfl⟩ : ∃ i : Nat, x = i := ⟨x.toNat, by omega⟩
            have hil : i < plen := by omega
            obtain ⟨p, hp⟩ := some_at HPL.out hil
            have hcp := hTb.cell (by rw [HPL.out]; exact hil) hp
            have HPk := hide2 (picked_in wr t plen plen i _ hil hcp)
            have hpl := (HPs.out.ins p (List.mem_of_getElem? hp)).1.1
            clear hout
            by_cases hz : p.len = 0
            · have hst : stp (ops Ps) s i = s := stp_nil hp (List.length_eq_zero_iff.1 (by omega))
              rw [hz] at HPk
              have et : taskV 0 (bs i) = .iface 73 (.agg #[]) := rfl
              rw [et] at HPk
              have HI := hide2 (idle_any wr)
              have HTk := hide2 hTk
              have HA := hide2 hA
              have HTb := hide2 hTb
              have HB := hide2 hB
              have HSZ := hide2 hsz
              clear hTk hA hTb hB et hcp
              go_wp2_with fail
              refine HPk.out.mono ?_
              rintro e w3 ⟨rfl, rfl⟩
              clear HPk
              go_wp2_with fail
              refine HI.out.mono ?_
              rintro e w4 ⟨rfl, hBi⟩
              clear HI
              have hs4 := hBi.size
              have hB4 : Below w.heap.size w w4 := HB.out.trans (hBi.mono (by have := HB.out.size; omega))
              go_wp2
              go_roundw
              case rel =>
                refine ⟨k + 1, by omega, by go_num, ?_, ?_, ?_, ?_, hB4, by have := HSZ.out; omega⟩
                · rw [E1.out, hst]
                · rw [E1.out, hst]
                  exact ⟨_, HTk.out.below hBi⟩
                · rw [E1.out, hst]
                  exact HA.out.same (hBi.block _ HA.out.ab.lt) (hBi.block _ HA.out.nb.lt)
                · exact HTb.out.same (hBi.block _ htl)
              case measure => simp [intOf]; omega
            · have et : taskV p.len (bs i) = .iface 74 (.pointer (some ⟨bs i, 0, none⟩)) := if_neg hz
              rw [et] at HPk
              have HI := hide2 (task_step (HPs.out.keep hB) hok hTk hA (by omega) hgB hsz i p ⟨hp, by omega⟩)
              have EN := hide2 (stp_n (Q := ops Ps) (s := s) (i := i))
              have HTb := hide2 hTb
              have HB := hide2 hB
              have hwsz := hB.size
              clear hTk hA hTb hB et hcp
              generalize stp (ops Ps) s i = s2 at *
              go_wp2_with fail
              refine HPk.out.mono ?_
              rintro e w3 ⟨rfl, rfl⟩
              clear HPk
              go_wp2_with fail
              refine HI.out.mono ?_
              rintro e w4 ⟨rfl, ⟨vs', hT4⟩, hA4, hF4, hTb4⟩
              clear HI
              have hs4 := hF4.size
              have hB4 : Below w.heap.size w w4 := HB.out.trans (hF4.to (fun j hj => by rintro (h | h | h) <;> omega) hwsz)
              have HR := hide2 (And.intro (show ∃ vs, Tks w4 B d g Ps bs vs s2.A from ⟨vs', hT4⟩) (And.intro hA4 (And.intro (hTb4 t _ HTb.out) (And.intro hB4 (Nat.le_trans hsz hs4)))))
              clear hT4 hA4 hF4 hTb4 hB4 HB HTb
              cases hnx : (nxt (ops Ps) s.A i).isSome with
              | true =>
                rw [hnx, if_pos rfl] at EN
                go_wp2
                go_roundw
                case rel =>
                  refine ⟨k + 1, by omega, by go_num, ?_, ?_⟩
                  · rw [E1.out, EN.out]; go_num
                  · rw [E1.out]; exact HR.out
                case measure => simp [intOf]; omega
              | false =>
                rw [hnx, if_neg (by decide)] at EN
                go_wp2
                go_roundw
                case rel =>
                  refine ⟨k + 1, by omega, by go_num, ?_, ?_⟩
                  · rw [E1.out, EN.out]
                  · rw [E1.out]; exact HR.out
                case measure => simp [intOf]; omega
        · obtain rfl : xlen = k := by omega
          have ext : xs.take xlen = xs := by rw [← hxl]; exact List.take_length
          rw [ext] at hTk hA hnk2 ⊢
          have HG : Hid (∃ s, s = runs (ops Ps) xs (St.start n Ps.length)) := hide2 ⟨_, rfl⟩
          obtain ⟨s, es⟩ := HG.out
          have ES := hide2 es
          rw [← es] at hTk hA hnk2 ⊢
          clear es HG ext hk hkl
          obtain ⟨wp, hwp⟩ : ∃ x, x = wr := ⟨_, rfl⟩
          subst hwp
          have hwsz := hB.size
          have HTk := hide2 (hTk.below ((Below.refl _ wp).alloc (Nat.le_refl _) (.cells (Array.replicate plen nilS) 26)))
          have HA := hide2 (hA.same (blk_alloc _ (.cells (Array.replicate plen nilS) 26) _ hA.ab.lt) (blk_alloc _ (.cells (Array.replicate plen nilS) 26) _ hA.nb.lt))
          have HTb := hide2 (hTb.same (blk_alloc _ (.cells (Array.replicate plen nilS) 26) _ hTb.lt))
          have HB := hide2 (hB.alloc hB.size (.cells (Array.replicate plen nilS) 26))
          have HR := hide2 (heap_alloc_new wp (.cells (Array.replicate plen nilS) 26))
          have hdl2 := hA.ab.lt
          have hgl2 := hA.nb.lt
          have htl2 := hTb.lt
          clear hTk hA hTb hB
          go_wp2
          obtain ⟨r, hrr⟩ : ∃ r, r = wp.heap.size := ⟨_, rfl⟩
          rw [← hrr]
          simp only [← hrr] at hdl2 hgl2 htl2 hwsz hsz
          have HRR := hide2 hrr
          clear hrr
          go_loopw [61] (fun i wr => ∃ k : Nat, k ≤ plen ∧ i = .int .i64 k ∧ Tks wr B d g Ps bs vs s.A ∧ Aw wr d g (List.replicate n true) s.N (s.n : Int) F ∧ Tb wr t Ps bs Ps.length ∧ Below w.heap.size w wr ∧ wr.heap[r]? = some (.cells (((List.range k).map (outV Ps vs)) ++ List.replicate (Ps.length - k) nilS).toArray 26 (0, 0))) (fun i _ => plen - (intOf i).toNat)
          case atStart =>
            refine ⟨0, by omega, rfl, HTk.out, HA.out, HTb.out, HB.out, ?_⟩
            rw [HRR.out, HR.out, HPL.out]
            simp
          case round =>
            clear HTk HA HTb HB HR
            obtain ⟨k, hk, rfl, hTk, hA, hTb, hB, hR⟩ := hrel
            have hrl : r < wr.heap.size := (Array.getElem?_eq_some_iff.1 hR).1
            by_cases hkl : k < plen
            · obtain ⟨p, hp⟩ := some_at HPL.out hkl
              have hcp := hTb.cell (by rw [HPL.out]; exact hkl) hp
              have hkl2 : (k : Int) < (plen : Int) := by omega
              have hkP : k < Ps.length := by rw [HPL.out]; exact hkl
              have hrc : ∃ v, wr.cell? ⟨r, k, none⟩ = some v := by
                rw [Go.Joins.cell_of_block hR]
                have hx : k < (((List.range k).map (outV Ps vs)) ++ List.replicate (Ps.length - k) nilS).length := by simp; omega
                refine ⟨(((List.range k).map (outV Ps vs)) ++ List.replicate (Ps.length - k) nilS)[k], ?_⟩
                rw [List.getElem?_toArray]
                exact List.getElem?_eq_getElem hx
              obtain ⟨v0, hrc⟩ := hrc
              have hrf := Go.Joins.unfrozen_of_block hR k
              have hR2 : (wr.setCell ⟨r, k, none⟩ (outV Ps vs k)).heap[r]? = some (.cells (((List.range (k + 1)).map (outV Ps vs)) ++ List.replicate (Ps.length - (k + 1)) nilS).toArray 26 (0, 0)) := by
                rw [Go.Joins.block_setCell hR, ← range_take hkP]
                simp
              have hT2 : Tks (wr.setCell ⟨r, k, none⟩ (outV Ps vs k)) B d g Ps bs vs s.A := by
                refine { hTk with pb := fun i q hi => ?_, row := fun i q hi => ?_ }
                · obtain ⟨lv, h5, h6⟩ := hTk.pb i q hi
                  refine ⟨lv, (Below.heap_setCell _ _ _ _ ?_).trans h5, h6⟩
                  intro e
                  unfold Pb at h5
                  simp only at e
                  rw [e, hR] at h5
                  simp at h5
                · refine row_fr (hTk.row i q hi) (Fr.setCell (p := ⟨r, k, none⟩) (Fr.refl (fun j => j = r) wr) (.inl rfl) _) (fun j hj e => ?_)
                  obtain ⟨c, fz, hh⟩ := Go.Lib.ownsRow_kind (hTk.row i q hi) j hj
                  rw [e, hR] at hh
                  simp at hh
              have hA2 : Aw (wr.setCell ⟨r, k, none⟩ (outV Ps vs k)) d g (List.replicate n true) s.N (s.n : Int) F := hA.same (Below.heap_setCell _ _ _ _ (by simp; omega)) (Below.heap_setCell _ _ _ _ (by simp; omega))
              have hTb2 : Tb (wr.setCell ⟨r, k, none⟩ (outV Ps vs k)) t Ps bs Ps.length := hTb.same (Below.heap_setCell _ _ _ _ (by simp; omega))
              have hB2 : Below w.heap.size w (wr.setCell ⟨r, k, none⟩ (outV Ps vs k)) := hB.setCell (p := ⟨r, k, none⟩) (by simp; omega) _
              have HX := hide2 (And.intro hT2 (And.intro hA2 (And.intro hTb2 (And.intro hB2 hR2))))
              by_cases hz : p.len = 0
              · have ev : outV Ps vs k = nilS := outV_none (fun q hq => by
                  obtain rfl : p = q := Option.some.inj (hp.symm.trans hq.1)
                  have := hq.2
                  omega)
                rw [ev] at HX
                rw [hz] at hcp
                have et : taskV 0 (bs k) = .iface 73 (.agg #[]) := rfl
                rw [et] at hcp
                have HK := hide2 (answersOf_idle wr)
                clear hT2 hA2 hTb2 hB2 hR2 hTk hA hTb hB hR et ev
                go_wp2_with fail
                refine HK.out.mono ?_
                rintro e w' ⟨rfl, rfl⟩
                clear HK
                go_wp2
                go_roundw
                case rel => exact ⟨k + 1, by omega, by go_num, HX.out⟩
                case measure => simp [intOf]; omega
              · have hlv : Live Ps k p := ⟨hp, by omega⟩
                have ev : outV Ps vs k = vs k := outV_live hlv
                rw [ev] at HX
                have et : taskV p.len (bs k) = .iface 74 (.pointer (some ⟨bs k, 0, none⟩)) := if_neg hz
                rw [et] at hcp
                obtain ⟨lv, h5, -⟩ := hTk.pb k p hlv
                have HK := hide2 (answersOf_prog wr (bs k) (vs k) h5.cell.2.2)
                have hform : ∃ ao l c, vs k = .slice ao l c := by
                  rcases Go.Joins.ownsRow_forms (hTk.row k p hlv) with ⟨e, -⟩ | ⟨g2, c2, e⟩
                  · exact ⟨_, _, _, e⟩
                  · exact ⟨_, _, _, e⟩
                obtain ⟨ao3, l3, c3, e3⟩ := hform
                rw [e3] at HX HK
                clear hT2 hA2 hTb2 hB2 hR2 hTk hA hTb hB hR et ev h5 e3
                go_wp2_with fail
                refine HK.out.mono ?_
                rintro e w' ⟨rfl, rfl⟩
                clear HK
                go_wp2
                go_roundw
                case rel => exact ⟨k + 1, by omega, by go_num, HX.out⟩
                case measure => simp [intOf]; omega
            · obtain rfl : plen = k := by omega
              have eL : ((List.range plen).map (outV Ps vs)) ++ List.replicate (Ps.length - plen) nilS = outL Ps vs := by
                rw [HPL.out]; simp [outL, HPL.out]
              rw [eL] at hR
              have hO : Outs wr w.heap.size r s.A (outL Ps vs) := hTk.outs (w' := wr) hR hwB
              have HN := hide2 (numbers_any wr d g n s.N s.n F hA ⟨by omega, by omega⟩)
              have hwr := hB.size
              have HO := hide2 hO
              have HB := hide2 hB
              have HNB : Hid (∀ i j, ((outL Ps vs).getD i nilS).ownBlock = some j → B ≤ j) := hide2 (fun i j hj => by
                rw [outL_at] at hj
                by_cases hl : ∃ p, Live Ps i p
                · obtain ⟨p, hp⟩ := hl
                  rw [outV_live hp] at hj
                  exact ((hTk.row i p hp).lt j hj).1
                · rw [outV_none (fun p hp => hl ⟨p, hp⟩)] at hj
                  cases hj)
              clear hTk hA hTb hR hO hB eL
              go_wp2_with fail
              refine HN.out.mono ?_
              rintro e w5 ⟨⟨hh, hhl, rfl, hNb⟩, hF5⟩
              clear HN
              have hB5 : Below w.heap.size w w5 := HB.out.trans (hF5.to (fun j hj => by rintro (h | h) <;> omega) hwr)
              have hO5 : Outs w5 w.heap.size r s.A (outL Ps vs) := by
                have ho := HO.out
                refine { ho with blk := (hF5.block r hrl ?_).trans ho.blk, row := fun i => row_fr (ho.row i) hF5 (fun j hj => ?_) }
                · rintro (e | e)
                  · omega
                  · omega
                · have := HNB.out i j hj
                  rintro (e | e) <;> omega
              have hne : ∀ i, ((outL Ps vs).getD i nilS).ownBlock ≠ some hh := fun i e => by
                have := ((HO.out.row i).lt hh e).2
                omega
              have HX := hide2 (And.intro hO5 (And.intro hNb (And.intro (show w.heap.size ≤ hh by omega) (And.intro (show w.heap.size ≤ r by omega) (And.intro hne hB5)))))
              clear hO5 hNb hne hB5 HO HB hF5
              go_wp2
              have es := ES.out
              subst es
              refine bodyPost_ret (v := .tuple #[.slice (some ⟨r, 0, none⟩) plen plen, .slice (some ⟨hh, 0, none⟩) n n, .int .i64 _, .int .i64 0]) (by simp [results, Tryd.results10, go_sem]) rfl ⟨r, hh, _, rfl, HX.out⟩
end Go.Proofs.YtnpmldlnckbppaaDoor
