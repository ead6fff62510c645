/-
  SkipGoes. (Printed by gen_sp7.py.)
-/
import Derived.Test.YtopihgdbfhiejaaDoorSp3
import Derived.Deep.RegionHeld3
set_option linter.unusedVariables false
set_option linter.unusedSimpArgs false
namespace Go.Proofs.YtopihgdbfhiejaaDoor
open Go.RowKit Go.Maps Go.Sort

/-- What an ask's variable holds. -/
def Xq (w : World) (b : Nat) (x : AskR) : Prop := w.heap[b]? = some (.cells #[.int .i64 x.w, .int .i64 x.kind, .string x.key, .int .i64 x.ref, .int .i64 x.h] 33 (0, 0))
theorem Xq.all {w : World} {b : Nat} {x : AskR} (h : Xq w b x) : w.cell? ⟨b, 0, none⟩ = some (.int .i64 x.w) ∧ w.cell? ⟨b, 1, none⟩ = some (.int .i64 x.kind) ∧ w.cell? ⟨b, 2, none⟩ = some (.string x.key) ∧ w.cell? ⟨b, 3, none⟩ = some (.int .i64 x.ref) ∧ w.cell? ⟨b, 4, none⟩ = some (.int .i64 x.h) := by
  unfold Xq at h
  refine ⟨?_, ?_, ?_, ?_, ?_⟩ <;> (rw [Go.Joins.cell_of_block h]; rfl)
theorem Xq.cells {w : World} {b : Nat} {x : AskR} (h : Xq w b x) : w.cell? ⟨b, 2, none⟩ = some (.string x.key) ∧ w.cell? ⟨b, 3, none⟩ = some (.int .i64 x.ref) ∧ w.cell? ⟨b, 4, none⟩ = some (.int .i64 x.h) := h.all.2.2
theorem Xq.below {w w' : World} {b : Nat} {x : AskR} (h : Xq w b x) (hb : Below w.heap.size w w') : Xq w' b x := (hb.block _ (Array.getElem?_eq_some_iff.1 h).1).trans h
theorem Xq.fr {G : Nat → Prop} {w w' : World} {b : Nat} {x : AskR} (h : Xq w b x) (hF : Fr G w w') (hG : ¬ G b) : Xq w' b x := (hF.block _ (Array.getElem?_eq_some_iff.1 h).1 hG).trans h
def optr : Option Un → Value
  | none => .pointer none
  | some u => .pointer (some ⟨u.b, 0, none⟩)
theorem met_seq {w : World} {base : Nat} {v : Value} {met : List ByteArray} (h : w.ownsRow base 9 1 v met.length (met.map Value.string)) : ∃ ao cap, v = .slice ao met.length cap ∧ Seq 1 sk w ao met.length cap met := by
  have h2 : w.ownsRow base 9 1 v (met.map kt).length ((met.map kt).map encStr) := by
    rw [List.length_map, List.map_map]
    have : (met.map Value.string) = met.map (encStr ∘ kt) := List.map_congr_left (fun k _ => (kt_enc k).symm)
    rw [← this]; exact h
  obtain ⟨ao, cap, ev, hs⟩ := str_seq h2
  rw [List.length_map] at ev hs
  refine ⟨ao, cap, ev, rfl, hs.2.1, hs.2.2.1, fun h0 => ?_⟩
  obtain ⟨b, off, eo, hb, hc⟩ := hs.2.2.2 h0
  refine ⟨b, off, eo, hb, fun i x hx j v hv => ?_⟩
  have := hc i (kt x) (by simp [hx]) j v (by
    rw [← hv]
    show [encStr (kt x)][j]? = [Value.string x][j]?
    rw [kt_enc])
  exact this
theorem Gm.swap {w wr : World} {lb d M : Nat} {K : Nat → Prop} {s : Sl} {vi vm : Value} {ins : List AskR} {met : List ByteArray} {u v : Un} {ot : Option Un} (h : Gm w wr lb d M K s vi ins vm met ((v :: ot.toList) ++ [u])) : Gm w wr lb d M K s vi ins vm met (u :: ot.toList) := by
  cases ot with
  | none => exact h.less (fun i => i + 1) (fun i j e => by omega) (fun i => by
      cases i with
      | zero => exact .inr rfl
      | succ i => exact .inl rfl)
  | some y => exact h.less (fun i => if i = 0 then 2 else if i = 1 then 1 else i + 5) (fun i j e => by
      by_cases a : i = 0 <;> by_cases b : i = 1 <;> by_cases c : j = 0 <;> by_cases d : j = 1 <;> simp [a, b, c, d] at e ⊢ <;> omega) (fun i => by
      match i with
      | 0 => exact .inr rfl
      | 1 => exact .inr rfl
      | i + 2 => exact .inl rfl)
section
variable {w : World}
set_option maxRecDepth 100000 in
set_option maxHeartbeats 16000000 in
theorem skipGoes_walk (fo : Option Addr) (flen fcap : Nat) (fs : List AskR) (ho : Option Addr) (tlen tcap : Nat) (ts : List AskR) (po : Option Addr) (plen pcap : Nat) (ps : List Int) (hT : Tab w) (hf : Seq 5 AskR.cells w fo flen fcap fs) (hfok : ∀ x ∈ fs, x.ok) (ht : Seq 5 AskR.cells w ho tlen tcap ts) (htok : ∀ x ∈ ts, x.ok) (hp : Seq 1 ih w po plen pcap ps) (hpk : ∀ p ∈ ps, I64 p) :
    Calls Tryd.prog 6 #[.slice fo flen fcap, .slice ho tlen tcap, .slice po plen pcap] w fun e w' => e = .returned (.bool true) ∧ Below w.heap.size w w' := by
  have q1 := hf.2.1
  have q2 := hf.2.2.1
  have q3 := ht.2.1
  have q4 := ht.2.2.1
  have q5 := hp.2.1
  have q6 := hp.2.2.1
  unfold maxLen at q2 q4 q6
  have HS := hide2 (shown_any hT)
  have HT0 := hide2 hT
  have hw0 := hT.1
  obtain ⟨m2, hm2⟩ : ∃ m, m = min plen 10000 := ⟨_, rfl⟩
  have e2 : min (plen : Int) 10000 = (m2 : Int) := by omega
  obtain ⟨po1, hsl2, hsq2⟩ := seq_cut (P := Tryd.prog) hp 47 3 Tryd.underlying47 size_int m2 (by omega)
  have HPQ := hide2 hsq2
  have HFQ := hide2 hf
  have HTQ := hide2 ht
  have HFO := hide2 hfok
  have HTO := hide2 htok
  have hm2b : m2 ≤ 10000 := by omega
  have hm2c : m2 ≤ pcap := by omega
  clear hT hf hfok ht htok hp hpk hm2 hsq2
  go_enter Tryd.func6, Tryd.ntmps6
  go_wp2_with fail
  refine HS.out.mono ?_
  rintro e w0 ⟨rfl, hb0⟩
  have HM := hide2 (made_any (HT0.out.below hb0 hw0))
  have HB0 := hide2 hb0
  have hs0' := hb0.size
  clear HS hb0
  go_wp2_with fail
  refine HM.out.mono ?_
  rintro e w1 ⟨lb, K1, rfl, h1, hK1, hb1⟩
  obtain ⟨d, hd⟩ : ∃ d, d = w0.heap.size + 1 := ⟨_, rfl⟩
  rw [← hd] at h1 ⊢
  have HH0 : Hid (Hs w w1 lb d 0 K1 s0 [] (.slice none 0 0) (.slice none 0 0) []) := hide2 ⟨h1, ⟨rfl, .inl ⟨rfl, rfl⟩⟩, fun u hu => (by cases hu), ⟨rfl, .inl ⟨rfl, rfl⟩⟩, fun j hj => by have := hK1 j hj; omega, fun j e => (by cases e), fun u hu => (by cases hu), fun j e => (by cases e), HB0.out.trans ⟨hb1.os, hb1.tape, hb1.output, hb1.size, fun j hj => hb1.block j (by omega)⟩, hw0⟩
  clear HM h1 hK1 hb1 hd HB0
  go_wp2
  go_loopw [10, 11] (fun v i wr => ∃ (m M : Nat) (K : Nat → Prop) (s : Sl) (ins : List AskR), m ≤ flen ∧ m ≤ 30 ∧ i = .int .i64 m ∧ ins.length ≤ m ∧ M ≤ m * 100 ∧ Hid (s.sp = []) ∧ Hid (Ik s ins) ∧ Hid (Hs w wr lb d M K s [] (.slice none 0 0) v ins)) (fun _ i _ => 30 - (intOf i).toNat)
  case atStart => exact ⟨0, 0, K1, s0, [], by omega, by omega, rfl, by simp, by omega, hide2 rfl, hide2 Ik.start, HH0⟩
  case round =>
    clear HH0
    obtain ⟨m, M, K, s, ins, hm1, hm3, rfl, hin, hM, SP, IK0, H⟩ := hrel
    by_cases hlt : m < flen ∧ m < 30
    · obtain ⟨g1, g2⟩ := hlt
      have d1 : decide ((m : Int) < (flen : Int)) = true := by simp; omega
      have d2 : decide ((m : Int) < 30) = true := by simp; omega
      have d3 : (m : Int) < (flen : Int) := by omega
      obtain ⟨b, off, rfl, hbl, hcell⟩ := HFQ.out.2.2.2 (by omega)
      obtain ⟨x, hx⟩ := some_at HFQ.out.1 g1
      have HXO := hide2 (HFO.out x (List.mem_of_getElem? hx))
      have hcb : ∀ p : Addr, p.block < w.heap.size → wr.cell? p = w.cell? p := fun p hp => H.out.bl.cell (p := p) hp
      have y0 : wr.cell? ⟨b, off + m * 5, none⟩ = some (.int .i64 x.w) := (hcb _ hbl).trans (by have := hcell m x hx 0 _ rfl; simpa using this)
      have y1 : wr.cell? ⟨b, off + m * 5 + 1, none⟩ = some (.int .i64 x.kind) := (hcb _ hbl).trans (by have := hcell m x hx 1 _ rfl; simpa using this)
      have y2 : wr.cell? ⟨b, off + m * 5 + 2, none⟩ = some (.string x.key) := (hcb _ hbl).trans (by have := hcell m x hx 2 _ rfl; simpa using this)
      have y3 : wr.cell? ⟨b, off + m * 5 + 3, none⟩ = some (.int .i64 x.ref) := (hcb _ hbl).trans (by have := hcell m x hx 3 _ rfl; simpa using this)
      have y4 : wr.cell? ⟨b, off + m * 5 + 4, none⟩ = some (.int .i64 x.h) := (hcb _ hbl).trans (by have := hcell m x hx 4 _ rfl; simpa using this)
      obtain ⟨ivo, ivc, ev10, _⟩ := H.out.ar.seq
      subst ev10
      have hbA : Below wr.heap.size wr (wr.alloc (.cells #[.int .i64 x.w, .int .i64 x.kind, .string x.key, .int .i64 x.ref, .int .i64 x.h] 33)) := (Below.refl _ _).alloc (Nat.le_refl _) _
      have HXA : Hid (Xq (wr.alloc (.cells #[.int .i64 x.w, .int .i64 x.kind, .string x.key, .int .i64 x.ref, .int .i64 x.h] 33)) wr.heap.size x) := hide2 (heap_alloc_new wr _)
      have HHA := hide2 (H.out.below hbA)
      have HIK := hide2 (isKey_any x.key HXO.out.2.2.1 (wr.alloc (.cells #[.int .i64 x.w, .int .i64 x.kind, .string x.key, .int .i64 x.ref, .int .i64 x.h] 33)))
      have e0 : (wr.alloc (.cells #[.int .i64 0, .int .i64 0, .string ⟨#[]⟩, .int .i64 0, .int .i64 0] 33)).heap[wr.heap.size]? = some (.cells #[.int .i64 0, .int .i64 0, .string ⟨#[]⟩, .int .i64 0, .int .i64 0] 33 (0, 0)) := heap_alloc_new wr _
      have c0 : (wr.alloc (.cells #[.int .i64 0, .int .i64 0, .string ⟨#[]⟩, .int .i64 0, .int .i64 0] 33)).cell? ⟨wr.heap.size, 0, none⟩ = some (.int .i64 0) := by rw [Go.Joins.cell_of_block e0]; rfl
      have c1 : (wr.alloc (.cells #[.int .i64 0, .int .i64 0, .string ⟨#[]⟩, .int .i64 0, .int .i64 0] 33)).cell? ⟨wr.heap.size, 1, none⟩ = some (.int .i64 0) := by rw [Go.Joins.cell_of_block e0]; rfl
      have c2 : (wr.alloc (.cells #[.int .i64 0, .int .i64 0, .string ⟨#[]⟩, .int .i64 0, .int .i64 0] 33)).cell? ⟨wr.heap.size, 2, none⟩ = some (.string ⟨#[]⟩) := by rw [Go.Joins.cell_of_block e0]; rfl
      have c3 : (wr.alloc (.cells #[.int .i64 0, .int .i64 0, .string ⟨#[]⟩, .int .i64 0, .int .i64 0] 33)).cell? ⟨wr.heap.size, 3, none⟩ = some (.int .i64 0) := by rw [Go.Joins.cell_of_block e0]; rfl
      have c4 : (wr.alloc (.cells #[.int .i64 0, .int .i64 0, .string ⟨#[]⟩, .int .i64 0, .int .i64 0] 33)).cell? ⟨wr.heap.size, 4, none⟩ = some (.int .i64 0) := by rw [Go.Joins.cell_of_block e0]; rfl
      have f0 := Go.Joins.unfrozen_of_block e0 0
      have f1 := Go.Joins.unfrozen_of_block e0 1
      have f2 := Go.Joins.unfrozen_of_block e0 2
      have f3 := Go.Joins.unfrozen_of_block e0 3
      have f4 := Go.Joins.unfrozen_of_block e0 4
      have hsA : (wr.alloc (.cells #[.int .i64 x.w, .int .i64 x.kind, .string x.key, .int .i64 x.ref, .int .i64 x.h] 33)).heap.size = wr.heap.size + 1 := by simp
      have HKL := hide2 H.out.ht.kl
      have HSA := hide2 hsA
      clear e0 hbA hcb hcell hx hbl H hsA
      go_wp2_with fail
      clear c0 c1 c2 c3 c4 f0 f1 f2 f3 f4 y0 y1 y2 y3 y4
      refine HIK.out.mono ?_
      rintro e w2 ⟨rfl, hw2⟩
      have H2 : Hid (Hs w w2 lb d M K s [] (.slice none 0 0) (.slice ivo ins.length ivc) ins) := hide2 (by rw [hw2]; exact HHA.out)
      have X2 : Hid (Xq w2 wr.heap.size x) := hide2 (by rw [hw2]; exact HXA.out)
      have hs2 : w2.heap.size = wr.heap.size + 1 := by rw [hw2]; exact HSA.out
      have HS2 := hide2 hs2
      clear HIK hw2 HHA HXA hs2 HSA
      obtain ⟨x2, x3, x4⟩ := X2.out.cells
      obtain ⟨a9, c9, ev9, hsq9⟩ := H2.out.ar.seq
      simp only [Value.slice.injEq, true_and] at ev9
      obtain ⟨rfl, rfl⟩ := ev9
      have HFD := hide2 (find_any hsq9 x.key)
      clear hsq9
      go_wp2_with fail
      refine HFD.out.mono ?_
      rintro e w3 ⟨⟨r, rfl, hr⟩, hw3⟩
      have hb3 : Below w2.heap.size w2 w3 := by rw [hw3]; exact Below.refl _ _
      have H3 := hide2 (H2.out.below hb3)
      have X3 := hide2 (X2.out.below hb3)
      have hs3 : w3.heap.size = wr.heap.size + 1 := by rw [hw3]; exact HS2.out
      have HS3 := hide2 hs3
      have HR := hide2 hr
      clear x2 x3 x4 HFD hw3 hb3 H2 X2 hr hs3
      obtain ⟨x2, x3, x4⟩ := X3.out.cells
      have HIN := hide2 (H3.out.ht.insertI x HXO.out)
      go_wp2_with fail
      refine HIN.out.mono ?_
      rintro e w4 ⟨rfl, ho4, hb4⟩
      have HDN := hide2 (done_ins (H3.out.ht.below hb4) SP.out IK0.out (by omega) x ho4 (fun e => by have := HKL.out _ e; have := HS3.out; omega) (by have := HS3.out; omega) (by omega))
      have X4 := hide2 (X3.out.below hb4)
      have HB4 := hide2 hb4
      have hs4 := hb4.size
      clear HIN ho4 hb4 x2 x3 x4 X3
      go_wp2_with fail
      refine HDN.out.mono ?_
      rintro e w5 ⟨n5, s5, K5, rfl, hn5, hsp5, hii, hl5, hK5, hF5⟩
      have HH5 := hide2 (H3.out.went (ob := w3.heap.size) hl5 (Nat.le_refl _) HB4.out hK5 hF5)
      have X5 : Hid (Xq w5 wr.heap.size x) := hide2 (X4.out.fr hF5 (fun q => by
        rcases q with q | q
        · have := HKL.out _ q; omega
        · have := HS3.out; omega))
      have HSP5 := hide2 hsp5
      have HII := hide2 hii
      have hn5i : ¬ (n5 : Int) < 0 := by omega
      clear HDN hsp5 hii hl5 hK5 hF5 H3 HB4 X4
      cases hgk : good x.key with
      | false =>
        have IK := HII.out.2 (.inl hgk)
        clear HII HR X5
        go_wp2
        go_roundw
        case rel => exact ⟨m + 1, M + 100, K5, s5, ins, by omega, by omega, by go_num, by omega, by omega, HSP5, hide2 IK, HH5⟩
        case measure => simp [intOf]; omega
      | true =>
        rcases HR.out with ⟨er, hno⟩ | ⟨ir, ar, er, hir, hark⟩
        · subst er
          have IK := HII.out.1 hgk hno
          clear HII HR hno
          obtain ⟨i0, hi0, z0, z1, z2⟩ := info_parts infoAsk
          obtain ⟨x0, x1, x2, x3, x4⟩ := X5.out.all
          have HNEW := hide2 (ask_new w5 x)
          have HIK := hide2 IK
          clear IK
          go_wp2_with (at_builtin; refine Hid.out ?_)
          refine hide2 ?_
          refine wpList_append_own_at _ rfl _ _ 22 rfl w.heap.size 33 i0 (.agg #[.int .i64 0, .int .i64 0, .string .empty, .int .i64 0, .int .i64 0]) 5 48 Tryd.underlying22 hi0 z0 z1 z2 rfl (by decide) (.slice ivo ins.length ivc) _ _ rfl (World.ownsRow.alloc HH5.out.ar _) ⟨w5.heap.size, 0, none⟩ 1 1 [.int .i64 x.w, .int .i64 x.kind, .string x.key, .int .i64 x.ref, .int .i64 x.h] rfl rfl HNEW.out (by intro v hv; simp at hv; rcases hv with rfl | rfl | rfl | rfl | rfl <;> rfl) (by unfold maxLen; omega) (by omega) (by simp; have := HH5.out.bl.size; omega) ?_
          intro v' w10 hown10 hgrow10 hat10 hb10
          obtain ⟨gt, capt, ev⟩ := hrow_succ hown10
          have hF10 : Fr (fun j => (Value.slice ivo ins.length ivc).ownBlock = some j) w5 w10 := ((Fr.refl (fun j => (Value.slice ivo ins.length ivc).ownBlock = some j) w5).alloc _).trans (Fr.grown hgrow10 (fun j e => e)) (fun j e => .inl e)
          have hr10 : Ar w10 w.heap.size v' (ins ++ [x]) := by
            unfold Ar
            have ec : x.cells = [.int .i64 x.w, .int .i64 x.kind, .string x.key, .int .i64 x.ref, .int .i64 x.h] := rfl
            rw [List.length_append, List.length_singleton, List.flatMap_append, List.flatMap_singleton, ec]
            exact hown10
          have H10 := hide2 (HH5.out.rowed hF10 hr10 (fun j e => by
            rcases hb10 with q8 | q8
            · exact .inl (by rw [← q8]; exact e)
            · right
              rw [q8] at e
              simp at e
              omega))
          clear hown10 hgrow10 hat10 hb10 hF10 hr10 HNEW HH5 X5 x0 x1 x2 x3 x4
          subst ev
          go_wp2
          go_roundw
          case rel => exact ⟨m + 1, M + 100, K5, s5, ins ++ [x], by omega, by omega, by go_num, by simp; omega, by omega, HSP5, HIK, H10⟩
          case measure => simp [intOf]; omega
        · subst er
          have IK := HII.out.2 (.inr ⟨ar, List.mem_of_getElem? hir, hark⟩)
          have hir0 : ¬ (ir : Int) < 0 := by omega
          clear HII HR X5 hir hark
          go_wp2
          go_roundw
          case rel => exact ⟨m + 1, M + 100, K5, s5, ins, by omega, by omega, by go_num, by omega, by omega, HSP5, hide2 IK, HH5⟩
          case measure => simp [intOf]; omega
    · obtain ⟨ivo, ivc, ev10, _⟩ := H.out.ar.seq
      subst ev10
      go_upto_region 7 with fail
      go_cut [46] (fun b wc => b = .bool false ∧ wc = wr)
      case first =>
        by_cases hl1 : m < flen
        · have d1 : decide ((m : Int) < (flen : Int)) = true := by simp; omega
          have d2 : decide ((m : Int) < 30) = false := by simp; omega
          have d3 : ¬ m < 30 := fun q => hlt ⟨hl1, q⟩
          have d4 : ¬ (m : Int) < 30 := by omega
          go_wp2
          go_meet
          exact ⟨rfl, rfl⟩
        · have d1 : decide ((m : Int) < (flen : Int)) = false := by simp; omega
          have d3 : ¬ (m : Int) < (flen : Int) := by omega
          go_wp2
          go_meet
          exact ⟨rfl, rfl⟩
      case rest =>
        obtain ⟨rfl, hwc⟩ := hcut
        replace hwc := hwc.symm
        subst hwc
        clear hlt
        have HNX := hide2 (H.out.ht.next .empty (by decide))
        go_wp2_with fail
        refine HNX.out.mono ?_
        rintro e w2 ⟨rfl, ho2, hb2⟩
        have G2 := hide2 (H.out.gm.push (u := ⟨xN .empty, opA (xN .empty), wr.heap.size, (fun j => j = wr.heap.size), nilv, 0, none⟩) hb2 (Om.begun (lp := nilv) (by rw [opA_N]; exact ho2) (opA_tw _).2 (by have := H.out.bl.size; omega)) (fun j e => by have : j = wr.heap.size := e; omega))
        have P2 := hide2 (Gp.start H.out.ht.ok SP.out IK0.out (by omega) wr.heap.size (fun j => j = wr.heap.size) nilv 0)
        obtain ⟨vi, hvi⟩ : ∃ v, v = Value.slice ivo ins.length ivc := ⟨_, rfl⟩
        rw [← hvi] at G2
        have HVI := hide2 hvi
        clear HNX ho2 hb2 H SP IK0 hvi
        go_wp2
        go_loopw [16, 17, 18, 19, 20, 21] (fun fr vm p0 p1 kk i wr => ∃ (t k M : Nat) (K2 : Nat → Prop) (s2 : Sl) (met : List ByteArray) (u0 : Un) (ot : Option Un), t ≤ 200000 ∧ i = .int .i64 t ∧ kk = .int .i64 k ∧ fr = .string u0.x.key ∧ p0 = .pointer (some ⟨u0.b, 0, none⟩) ∧ p1 = optr ot ∧ M ≤ 10000 + t ∧ Hid (Gm w wr lb d M K2 s2 vi ins vm met (u0 :: ot.toList)) ∧ Hid (Gp s2 ins met u0 ot k t)) (fun _ _ _ _ _ i _ => 200000 - (intOf i).toNat)
        case atStart => exact ⟨0, 0, M, K, s, [], _, none, by omega, rfl, rfl, rfl, rfl, rfl, by omega, G2, P2⟩
        case round =>
          clear G2 P2
          obtain ⟨t, k, M, K2, s2, met, u0, ot, ht, rfl, rfl, rfl, rfl, hp1, hM2, G, P⟩ := hrel
          have HP1 := hide2 hp1
          clear hp1
          obtain ⟨mvo, mvc, evm, _⟩ := met_seq G.out.am
          subst evm
          by_cases hte : t < 200000
          · have T1 : (t : Int) < 200000 := by omega
            have hk30 := P.out.kk
            go_upto_region 26 with fail
            go_cut [108] (fun b wc => ∃ c : Bool, b = .bool c ∧ (10000 ≤ t → c = true → t % 5 = 4) ∧ wc = wr)
            case first =>
              have htm := Int.ofNat_tmod t 5
              by_cases a0 : t < m2
              · have A0 : (t : Int) < (m2 : Int) := by omega
                have D0 : decide ((t : Int) < (m2 : Int)) = true := decide_eq_true A0
                obtain ⟨pb, poff, rfl, hpbl, hpcell⟩ := HPQ.out.2.2.2 (by omega)
                obtain ⟨pv, hpv⟩ := some_at HPQ.out.1 a0
                have p0 : wr.cell? ⟨pb, poff + t, none⟩ = some (.int .i64 pv) := (G.out.bl.cell (p := ⟨pb, poff + t, none⟩) hpbl).trans (by have := hpcell t pv hpv 0 _ rfl; simpa using this)
                clear hpcell hpv
                by_cases a1 : pv.tmod 2 = 0
                · have D1 : decide (pv.tmod 2 = 0) = true := decide_eq_true a1
                  by_cases a2 : (t : Int) % 5 = 4
                  · have D2 : decide ((t : Int) % 5 = 4) = true := decide_eq_true a2
                    go_wp2
                    go_meet
                    exact ⟨true, rfl, fun q => by omega, rfl⟩
                  · have D2 : decide ((t : Int) % 5 = 4) = false := decide_eq_false a2
                    go_wp2
                    go_meet
                    exact ⟨false, by simp [a2], fun q => by omega, rfl⟩
                · have D1 : decide (pv.tmod 2 = 0) = false := decide_eq_false a1
                  go_wp2
                  go_meet
                  exact ⟨true, rfl, fun q => by omega, rfl⟩
              · have A0 : ¬ (t : Int) < (m2 : Int) := by omega
                have D0 : decide ((t : Int) < (m2 : Int)) = false := decide_eq_false A0
                by_cases a2 : (t : Int) % 5 = 4
                · have D2 : decide ((t : Int) % 5 = 4) = true := decide_eq_true a2
                  go_wp2
                  go_meet
                  exact ⟨true, rfl, fun q _ => by omega, rfl⟩
                · have D2 : decide ((t : Int) % 5 = 4) = false := decide_eq_false a2
                  go_wp2
                  go_meet
                  exact ⟨false, by simp [a2], fun q c => (by cases c), rfl⟩
            case rest =>
              obtain ⟨c, rfl, hc, hwc⟩ := hcut
              replace hwc := hwc.symm
              subst hwc
              cases c with
              | true =>
                have HTT : Hid (10000 ≤ t → t % 5 = 4) := hide2 (fun q => hc q rfl)
                clear hc
                cases ot with
                | some u1 =>
                  have hp1 : u19 = Value.pointer (some ⟨u1.b, 0, none⟩) := HP1.out
                  clear HP1
                  subst hp1

                  have HST := hide2 (step_other G.out P.out HTT.out (by omega))
                  go_wp2_with fail
                  refine HST.out.mono ?_
                  rintro e w9 ⟨b9, s9, K9, rfl, hy, hn9⟩
                  clear HST
                  cases b9 with
                  | true =>
                    have HY := hide2 (hy rfl)
                    clear hy hn9
                    go_wp2
                    go_roundw
                    case rel => exact ⟨t + 1, k, M + 1, K9, s9, met, u0, none, by omega, by go_num, by go_num, rfl, rfl, rfl, by omega, hide2 HY.out.1, hide2 HY.out.2⟩
                    case measure => simp [intOf]; omega
                  | false =>
                    obtain ⟨u9, e9, hG9, hP9⟩ := hn9 rfl
                    have HG9 := hide2 hG9
                    have HP9 := hide2 hP9
                    have HE9 : Hid (Value.pointer (some ⟨u1.b, 0, none⟩) = optr (some u9)) := hide2 (by show _ = Value.pointer (some ⟨u9.b, 0, none⟩); rw [e9])
                    clear hy hn9 hG9 hP9 e9
                    go_wp2
                    go_roundw
                    case rel => exact ⟨t + 1, k, M + 1, K9, s9, met, u0, some u9, by omega, by go_num, by go_num, rfl, rfl, HE9.out, by omega, HG9, HP9⟩
                    case measure => simp [intOf]; omega
                | none =>
                  have hp1 : u19 = Value.pointer none := HP1.out
                  clear HP1
                  subst hp1
                  by_cases hkt : k < tlen ∧ k < 30
                  · obtain ⟨h1, h2⟩ := hkt
                    have K1 : decide ((k : Int) < (tlen : Int)) = true := by simp; omega
                    have K2 : decide ((k : Int) < 30) = true := by simp; omega
                    have K3 : (k : Int) < (tlen : Int) := by omega
                    have K4 : (k : Int) < 30 := by omega
                    obtain ⟨tb, toff, rfl, htbl, htcell⟩ := HTQ.out.2.2.2 (by omega)
                    obtain ⟨y, hy⟩ := some_at HTQ.out.1 h1
                    have HYO := hide2 (HTO.out y (List.mem_of_getElem? hy))
                    have hcb : ∀ p : Addr, p.block < w.heap.size → wr.cell? p = w.cell? p := fun p hp => G.out.bl.cell (p := p) hp
                    have q2 : wr.cell? ⟨tb, toff + k * 5 + 2, none⟩ = some (.string y.key) := (hcb _ htbl).trans (htcell k y hy 2 _ rfl)
                    have q3 : wr.cell? ⟨tb, toff + k * 5 + 3, none⟩ = some (.int .i64 y.ref) := (hcb _ htbl).trans (htcell k y hy 3 _ rfl)
                    have q4 : wr.cell? ⟨tb, toff + k * 5 + 4, none⟩ = some (.int .i64 y.h) := (hcb _ htbl).trans (htcell k y hy 4 _ rfl)
                    have tbl : tb < wr.heap.size := by have : tb < w.heap.size := htbl; have := G.out.bl.size; omega
                    have hbd : Below wr.heap.size wr wr.drew := ⟨rfl, rfl, rfl, Nat.le_refl _, fun _ _ => rfl⟩
                    have HIN : Hid (Calls Tryd.prog 27 #[.pointer (some ⟨lb, 0, none⟩), .string y.key, .int .i64 y.ref, .int .i64 y.h] wr.drew fun e w' => e = .returned (.pointer (some ⟨wr.heap.size, 0, none⟩)) ∧ Om w' wr.heap.size (lpp lb) nilv (opI y) ∧ Below wr.heap.size wr.drew w') := hide2 ((G.out.ht.below hbd).insertI y HYO.out)
                    clear hcb htcell hy htbl hbd
                    go_wp2_with fail
                    refine wp_region_noPanic ?_
                    refine wp_region_held_drew (S := (fun u : World => u.cell? ⟨tb, toff + k * 5 + 2, none⟩ = some (.string y.key) ∧ u.cell? ⟨tb, toff + k * 5 + 3, none⟩ = some (.int .i64 y.ref) ∧ u.cell? ⟨tb, toff + k * 5 + 4, none⟩ = some (.int .i64 y.h))) (by kernel_rfl) (⟨q2, q3, q4⟩) (fun hHeld => ?_)
                    refine wpAnyH_take (i := 0) (oi := { dst := some 121, op := _, type := _, pos := _, after := _, guard := _ }) (v := ?_) rfl (by kernel_rfl) (by kernel_rfl) (by kernel_rfl) (fun _ _ _ h => h) (Or.inl ⟨by rfl, ?_⟩) (by assumption) ?_
                    rotate_left 1
                    · intro u hSw; obtain ⟨s1, s2, s3⟩ := hSw; go_simp; try with_reducible rfl
                    try simp only [Act.put, List.setIfInBounds_toArray, List.set_cons_zero, List.set_cons_succ]
                    refine wpAnyH_take (i := 1) (oi := { dst := some 122, op := _, type := _, pos := _, after := _, guard := _ }) (v := ?_) rfl (by kernel_rfl) (by kernel_rfl) (by kernel_rfl) (fun _ _ _ h => h) (Or.inl ⟨by rfl, ?_⟩) (by assumption) ?_
                    rotate_left 1
                    · intro u hSw; obtain ⟨s1, s2, s3⟩ := hSw; go_simp; try with_reducible rfl
                    try simp only [Act.put, List.setIfInBounds_toArray, List.set_cons_zero, List.set_cons_succ]
                    refine wpAnyH_take (i := 2) (oi := { dst := some 123, op := _, type := _, pos := _, after := _, guard := _ }) (v := ?_) rfl (by kernel_rfl) (by kernel_rfl) (by kernel_rfl) (fun _ _ _ h => h) (Or.inl ⟨by rfl, ?_⟩) (by assumption) ?_
                    rotate_left 1
                    · intro u hSw; obtain ⟨s1, s2, s3⟩ := hSw; go_simp; try with_reducible rfl
                    try simp only [Act.put, List.setIfInBounds_toArray, List.set_cons_zero, List.set_cons_succ]
                    refine wpAnyH_take (i := 3) (oi := { dst := some 124, op := _, type := _, pos := _, after := _, guard := _ }) (v := ?_) rfl (by kernel_rfl) (by kernel_rfl) (by kernel_rfl) (fun _ _ _ h => h) (Or.inl ⟨by rfl, ?_⟩) (by assumption) ?_
                    rotate_left 1
                    · intro u hSw; obtain ⟨s1, s2, s3⟩ := hSw; go_simp; try with_reducible rfl
                    try simp only [Act.put, List.setIfInBounds_toArray, List.set_cons_zero, List.set_cons_succ]
                    refine wpAnyH_take (i := 4) (oi := { dst := some 125, op := _, type := _, pos := _, after := _, guard := _ }) (v := ?_) rfl (by kernel_rfl) (by kernel_rfl) (by kernel_rfl) (fun _ _ _ h => h) (Or.inl ⟨by rfl, ?_⟩) (by assumption) ?_
                    rotate_left 1
                    · intro u hSw; obtain ⟨s1, s2, s3⟩ := hSw; go_simp; try with_reducible rfl
                    try simp only [Act.put, List.setIfInBounds_toArray, List.set_cons_zero, List.set_cons_succ]
                    refine wpAnyH_take (i := 5) (oi := { dst := some 126, op := _, type := _, pos := _, after := _, guard := _ }) (v := ?_) rfl (by kernel_rfl) (by kernel_rfl) (by kernel_rfl) (fun _ _ _ h => h) (Or.inl ⟨by rfl, ?_⟩) (by assumption) ?_
                    rotate_left 1
                    · intro u hSw; obtain ⟨s1, s2, s3⟩ := hSw; go_simp; try with_reducible rfl
                    try simp only [Act.put, List.setIfInBounds_toArray, List.set_cons_zero, List.set_cons_succ]
                    refine wpAnyH_take (i := 6) (oi := { dst := some 127, op := _, type := _, pos := _, after := _, guard := _ }) (v := ?_) rfl (by kernel_rfl) (by kernel_rfl) (by kernel_rfl) (fun _ _ _ h => h) (Or.inl ⟨by rfl, ?_⟩) (by assumption) ?_
                    rotate_left 1
                    · intro u hSw; obtain ⟨s1, s2, s3⟩ := hSw; go_simp; try with_reducible rfl
                    try simp only [Act.put, List.setIfInBounds_toArray, List.set_cons_zero, List.set_cons_succ]
                    refine wpAnyH_take (i := 7) (oi := { dst := some 128, op := _, type := _, pos := _, after := _, guard := _ }) (v := ?_) rfl (by kernel_rfl) (by kernel_rfl) (by kernel_rfl) (fun _ _ _ h => h) (Or.inl ⟨by rfl, ?_⟩) (by assumption) ?_
                    rotate_left 1
                    · intro u hSw; obtain ⟨s1, s2, s3⟩ := hSw; go_simp; try with_reducible rfl
                    try simp only [Act.put, List.setIfInBounds_toArray, List.set_cons_zero, List.set_cons_succ]
                    refine wpAnyH_take (i := 8) (oi := { dst := some 129, op := _, type := _, pos := _, after := _, guard := _ }) (v := ?_) rfl (by kernel_rfl) (by kernel_rfl) (by kernel_rfl) (fun _ _ _ h => h) (Or.inl ⟨by rfl, ?_⟩) (by assumption) ?_
                    rotate_left 1
                    · intro u hSw; obtain ⟨s1, s2, s3⟩ := hSw; go_simp; try with_reducible rfl
                    try simp only [Act.put, List.setIfInBounds_toArray, List.set_cons_zero, List.set_cons_succ]
                    refine wpAnyH_take (i := 9) (oi := { dst := some 130, op := _, type := _, pos := _, after := _, guard := _ }) (v := ?_) rfl (by kernel_rfl) (by kernel_rfl) (by kernel_rfl) (fun _ _ _ h => h) (Or.inl ⟨by rfl, ?_⟩) (by assumption) ?_
                    rotate_left 1
                    · intro u hSw; obtain ⟨s1, s2, s3⟩ := hSw; go_simp; try with_reducible rfl
                    try simp only [Act.put, List.setIfInBounds_toArray, List.set_cons_zero, List.set_cons_succ]
                    refine wpAnyH_take (i := 10) (oi := { dst := some 131, op := _, type := _, pos := _, after := _, guard := _ }) (v := ?_) rfl (by kernel_rfl) (by kernel_rfl) (by kernel_rfl) (fun _ _ _ h => h) (Or.inl ⟨by rfl, ?_⟩) (by assumption) ?_
                    rotate_left 1
                    · intro u hSw; obtain ⟨s1, s2, s3⟩ := hSw; go_simp; try with_reducible rfl
                    try simp only [Act.put, List.setIfInBounds_toArray, List.set_cons_zero, List.set_cons_succ]
                    refine wpAnyH_take (i := 11) (oi := { dst := some 132, op := _, type := _, pos := _, after := _, guard := _ }) (v := ?_) rfl (by kernel_rfl) (by kernel_rfl) (by kernel_rfl) (fun _ _ _ h => h) (Or.inl ⟨by rfl, ?_⟩) (by assumption) ?_
                    rotate_left 1
                    · intro u hSw; obtain ⟨s1, s2, s3⟩ := hSw; go_simp; try with_reducible rfl
                    try simp only [Act.put, List.setIfInBounds_toArray, List.set_cons_zero, List.set_cons_succ]
                    refine wpAnyH_take (i := 12) (oi := { dst := some 133, op := _, type := _, pos := _, after := _, guard := _ }) (v := ?_) rfl (by kernel_rfl) (by kernel_rfl) (by kernel_rfl) (fun _ _ _ h => h) (Or.inl ⟨by rfl, ?_⟩) (by assumption) ?_
                    rotate_left 1
                    · intro u hSw; obtain ⟨s1, s2, s3⟩ := hSw; go_simp; try with_reducible rfl
                    try simp only [Act.put, List.setIfInBounds_toArray, List.set_cons_zero, List.set_cons_succ]
                    refine wpAnyH_take (i := 13) (oi := { dst := some 134, op := _, type := _, pos := _, after := _, guard := _ }) (v := ?_) rfl (by kernel_rfl) (by kernel_rfl) (by kernel_rfl) (fun _ _ _ h => h) (Or.inl ⟨by rfl, ?_⟩) (by assumption) ?_
                    rotate_left 1
                    · intro u hSw; obtain ⟨s1, s2, s3⟩ := hSw; go_simp; try with_reducible rfl
                    try simp only [Act.put, List.setIfInBounds_toArray, List.set_cons_zero, List.set_cons_succ]
                    refine wpAnyH_take (i := 14) (oi := { dst := some 135, op := _, type := _, pos := _, after := _, guard := _ }) (v := ?_) rfl (by kernel_rfl) (by kernel_rfl) (by kernel_rfl) (fun _ _ _ h => h) (Or.inl ⟨by rfl, ?_⟩) (by assumption) ?_
                    rotate_left 1
                    · intro u hSw; obtain ⟨s1, s2, s3⟩ := hSw; go_simp; try with_reducible rfl
                    try simp only [Act.put, List.setIfInBounds_toArray, List.set_cons_zero, List.set_cons_succ]
                    refine wpAnyH_take (i := 15) (oi := { dst := some 136, op := _, type := _, pos := _, after := _, guard := _ }) (v := ?_) rfl (by kernel_rfl) (by kernel_rfl) (by kernel_rfl) (fun _ _ _ h => h) (Or.inl ⟨by rfl, ?_⟩) (by assumption) ?_
                    rotate_left 1
                    · intro u hSw; obtain ⟨s1, s2, s3⟩ := hSw; go_simp; try with_reducible rfl
                    try simp only [Act.put, List.setIfInBounds_toArray, List.set_cons_zero, List.set_cons_succ]
                    refine wpAnyH_ready (rs := [16]) (by kernel_rfl) (by simp) ?_
                    refine AllReadyH.cons (o := { dst := some 137, op := _, type := _, pos := _, after := _, guard := _ }) rfl (fun Kq hK => ?_) AllReadyH.nil
                    obtain ⟨s1, s2, s3⟩ := hHeld
                    go_simp
                    refine HIN.out.mono ?_
                    rintro e w8 ⟨rfl, ho8, hb8⟩
                    have r2 := (hb8.cell (p := ⟨tb, toff + k * 5 + 2, none⟩) tbl).trans q2
                    have r3 := (hb8.cell (p := ⟨tb, toff + k * 5 + 3, none⟩) tbl).trans q3
                    have r4 := (hb8.cell (p := ⟨tb, toff + k * 5 + 4, none⟩) tbl).trans q4
                    have HO8 := hide2 ho8
                    have HB8 := hide2 hb8
                    clear ho8 hb8
                    go_wp2_with fail
                    refine hK.out _ _ (⟨r2, r3, r4⟩) (fun hHeld => ?_)
                    clear hK Kq
                    try simp only [Act.put, List.setIfInBounds_toArray, List.set_cons_zero, List.set_cons_succ]
                    refine wpAnyH_take (i := 17) (oi := { dst := some 19, op := _, type := _, pos := _, after := _, guard := _ }) (v := ?_) rfl (by kernel_rfl) (by kernel_rfl) (by kernel_rfl) (fun _ _ _ h => h) (Or.inl ⟨by rfl, ?_⟩) (by assumption) ?_
                    rotate_left 1
                    · intro u hSw; obtain ⟨s1, s2, s3⟩ := hSw; go_simp; try with_reducible rfl
                    try simp only [Act.put, List.setIfInBounds_toArray, List.set_cons_zero, List.set_cons_succ]
                    refine wpAnyH_done (by kernel_rfl) ?_ _
                    refine NoPanic.normal ?_
                    have G8 := hide2 (G.out.push (u := ⟨xI y, opA (xI y), wr.heap.size, (fun j => j = wr.heap.size), nilv, 0, none⟩) (w' := w8) ⟨HB8.out.os, HB8.out.tape, HB8.out.output, HB8.out.size, HB8.out.block⟩ (Om.begun (lp := nilv) (by rw [opA_I]; exact HO8.out) (opA_tw _).2 (by have := G.out.bl.size; have := G.out.b0; omega)) (fun j e => by have : j = wr.heap.size := e; omega))
                    have P8 := hide2 (P.out.push G.out.ht.ok h2 y wr.heap.size (fun j => j = wr.heap.size) nilv 0)
                    clear HO8 HB8 HIN q2 q3 q4 K1 K2 K3 K4 G P r2 r3 r4
                    have HST := hide2 (step_other G8.out P8.out HTT.out (by omega))
                    go_wp2_with fail
                    refine HST.out.mono ?_
                    rintro e w9 ⟨b9, s9, K9, rfl, hy, hn9⟩
                    clear HST
                    cases b9 with
                    | true =>
                      have HY := hide2 (hy rfl)
                      clear hy hn9
                      go_wp2
                      go_roundw
                      case rel => exact ⟨t + 1, k + 1, M + 1, K9, s9, met, u0, none, by omega, by go_num, by go_num, rfl, rfl, rfl, by omega, hide2 HY.out.1, hide2 HY.out.2⟩
                      case measure => simp [intOf]; omega
                    | false =>
                      obtain ⟨u9, e9, hG9, hP9⟩ := hn9 rfl
                      have HG9 := hide2 hG9
                      have HP9 := hide2 hP9
                      have HE9 : Hid (Value.pointer (some ⟨wr.heap.size, 0, none⟩) = optr (some u9)) := hide2 (by show _ = Value.pointer (some ⟨u9.b, 0, none⟩); rw [e9])
                      clear hy hn9 hG9 hP9 e9
                      go_wp2
                      go_roundw
                      case rel => exact ⟨t + 1, k + 1, M + 1, K9, s9, met, u0, some u9, by omega, by go_num, by go_num, rfl, rfl, HE9.out, by omega, HG9, HP9⟩
                      case measure => simp [intOf]; omega
                  · have HSN := hide2 (ostep_nil wr)
                    have G9 := hide2 (G.out.up (Nat.le_succ M))
                    have P9 := hide2 (P.out.idle HTT.out)
                    have KD : (¬ k < tlen) ∨ (k < tlen ∧ ¬ k < 30) := by omega
                    rcases KD with q | ⟨q, q'⟩
                    · have K1 : decide ((k : Int) < (tlen : Int)) = false := by simp; omega
                      have K3 : ¬ (k : Int) < (tlen : Int) := by omega
                      clear hkt
                      go_wp2_with fail
                      refine HSN.out.mono ?_
                      rintro e w9 ⟨rfl, rfl⟩
                      go_wp2
                      go_roundw
                      case rel => exact ⟨t + 1, k, M + 1, K2, s2, met, u0, none, by omega, by go_num, rfl, rfl, rfl, rfl, by omega, G9, P9⟩
                      case measure => simp [intOf]; omega
                    · have K1 : decide ((k : Int) < (tlen : Int)) = true := by simp; omega
                      have K3 : (k : Int) < (tlen : Int) := by omega
                      have K2' : decide ((k : Int) < 30) = false := by simp; omega
                      have K4 : ¬ (k : Int) < 30 := by omega
                      clear hkt
                      go_wp2_with fail
                      refine HSN.out.mono ?_
                      rintro e w9 ⟨rfl, rfl⟩
                      go_wp2
                      go_roundw
                      case rel => exact ⟨t + 1, k, M + 1, K2, s2, met, u0, none, by omega, by go_num, rfl, rfl, rfl, rfl, by omega, G9, P9⟩
                      case measure => simp [intOf]; omega
              | false =>
                clear hc
                have HST := hide2 (step_own G.out P.out (by omega))
                go_wp2_with fail
                refine HST.out.mono ?_
                rintro e w9 ⟨b9, u9, K9, rfl, e9, x9, hG9, hno, hyes⟩
                clear HST
                cases b9 with
                | false =>
                  have HP9 := hide2 (hno rfl)
                  have HG9 := hide2 hG9
                  have HX9 : Hid (Value.string u0.x.key = Value.string u9.x.key) := hide2 (by rw [x9])
                  have HE9 : Hid (Value.pointer (some ⟨u0.b, 0, none⟩) = Value.pointer (some ⟨u9.b, 0, none⟩)) := hide2 (by rw [e9])
                  clear hno hyes hG9 e9 x9 G P
                  go_wp2
                  go_roundw
                  case rel => exact ⟨t + 1, k, M + 1, K9, s2, met, u9, ot, by omega, by go_num, rfl, HX9.out, HE9.out, HP1.out, by omega, HG9, HP9⟩
                  case measure => simp [intOf]; omega
                | true =>
                  obtain ⟨st5, c0, f16, hge, hmiss, hnext⟩ := hyes rfl
                  have ho9 := (hG9.ops u9 (by simp)).om
                  rw [e9] at ho9
                  have hrf := ref_done ho9 st5 f16
                  rw [c0] at hrf
                  obtain ⟨hd, ehd⟩ : ∃ b, b = u9.o.had := ⟨_, rfl⟩
                  obtain ⟨fk, efk⟩ : ∃ b, b = u9.o.fk := ⟨_, rfl⟩
                  rw [← ehd, ← efk] at hrf
                  rw [← ehd, ← efk] at hge hnext
                  rw [← ehd] at hmiss
                  have HRF := hide2 hrf
                  have HG9 := hide2 hG9
                  have HGE := hide2 hge
                  have HMI := hide2 hmiss
                  have HNX := hide2 hnext
                  have hf16 : fk.size ≤ 16 := by rw [efk]; exact f16
                  clear hno hyes hG9 e9 x9 G P st5 c0 f16 hge hmiss hnext ho9 hrf ehd efk
                  go_wp2_with fail
                  refine HRF.out.mono ?_
                  rintro e w10 ⟨rfl, hb10⟩
                  have G10 := hide2 (HG9.out.below hb10)
                  clear HRF hb10 HG9
                  cases hd with
                  | false =>
                    obtain ⟨ivo, ivc, evi, hsqi⟩ := G10.out.ai.seq
                    obtain ⟨mvo, mvc, evm, hsqm⟩ := met_seq G10.out.am
                    have HAM := hide2 (allMet_any hsqi hsqm (HMI.out rfl))
                    have HF := hide2 G10.out.bl
                    rw [HVI.out] at evi
                    simp only [Value.slice.injEq, true_and] at evi evm
                    obtain ⟨rfl, rfl⟩ := evi
                    obtain ⟨rfl, rfl⟩ := evm
                    clear hsqi hsqm G10 HMI HNX HGE
                    go_wp2_with fail
                    refine HAM.out.mono ?_
                    rintro e w11 ⟨rfl, q11, hw11⟩
                    have HF2 : Hid (Below w.heap.size w w11) := hide2 (by rw [hw11]; exact HF.out.trans (below_drewN _ _ _))
                    clear HAM HF hw11
                    go_wp2
                    go_ret
                    exact ⟨rfl, HF2.out⟩
                  | true =>
                    have K6 : Op.bytesLess fk.toList u0.x.key.toList = false := less_no (HGE.out rfl)
                    have hml := (HNX.out (by simp) 0 (fun _ => False) nilv 0).phi
                    have hmet : met.length ≤ 9500 := by rw [List.length_append, List.length_singleton] at hml; omega
                    obtain ⟨i0, hi0, z0, z1, z2⟩ := info_parts infoS9
                    clear hml HMI HGE
                    have HNEW : Hid (∀ j u, [Value.string fk][j]? = some u → (w10.alloc (.cells #[.string fk] 9)).cell? ((⟨w10.heap.size, 0, none⟩ : Addr).add j) = some u) := hide2 (fun j u hj => by
                      have hb : (w10.alloc (.cells #[.string fk] 9)).heap[w10.heap.size]? = some (.cells #[.string fk] 9 (0, 0)) := heap_alloc_new w10 _
                      rw [addr_add, Go.Joins.cell_of_block hb, ← Array.getElem?_toList]
                      simpa using hj)
                    go_wp2_with (at_builtin; refine Hid.out ?_)
                    refine hide2 ?_
                    refine wpList_append_own_at _ rfl _ _ 44 rfl w.heap.size 9 i0 (.string .empty) 1 16 Tryd.underlying44 hi0 z0 z1 z2 rfl (by decide) (.slice mvo met.length mvc) _ _ rfl (World.ownsRow.alloc G10.out.am _) ⟨w10.heap.size, 0, none⟩ 1 1 [.string fk] rfl rfl HNEW.out (by intro v hv; simp at hv; rcases hv with rfl; rfl) (by unfold maxLen; omega) (by omega) (by simp; have := G10.out.bl.size; omega) ?_
                    intro v' w11 hown11 hgrow11 hat11 hb11
                    obtain ⟨gt, capt, ev⟩ := hrow_succ hown11
                    have hF11 : Fr (fun j => (Value.slice mvo met.length mvc).ownBlock = some j) w10 w11 := ((Fr.refl (fun j => (Value.slice mvo met.length mvc).ownBlock = some j) w10).alloc _).trans (Fr.grown hgrow11 (fun j e => e)) (fun j e => .inl e)
                    have G11 := hide2 (G10.out.mets (met' := met ++ [fk]) hF11 (by
                      rw [List.length_append, List.length_singleton, List.map_append]
                      exact hown11) (fun j e => by
                      rcases hb11 with q8 | q8
                      · exact .inl (by rw [← q8]; exact e)
                      · right
                        rw [q8] at e
                        simp at e
                        omega))
                    have hsz : (fk ++ nul).size ≤ maxLen := by
                      have : (fk ++ nul).size = fk.size + 1 := by rw [ByteArray.size_append]; rfl
                      unfold maxLen; omega
                    have HNE := hide2 (G11.out.ht.next (fk ++ nul) hsz)
                    clear hown11 hgrow11 hat11 hb11 hF11 HNEW G10
                    subst ev
                    go_wp2_with fail
                    refine HNE.out.mono ?_
                    rintro e w12 ⟨rfl, ho12, hb12⟩
                    have G12 := (G11.out.push (u := ⟨xN (fk ++ nul), opA (xN (fk ++ nul)), w11.heap.size, (fun j => j = w11.heap.size), nilv, 0, none⟩) hb12 (Om.begun (lp := nilv) (by rw [opA_N]; exact ho12) (opA_tw _).2 (by have := G11.out.bl.size; have := G11.out.b0; omega)) (fun j e => by have : j = w11.heap.size := e; omega))
                    have HG12 : Hid (Gm w w12 lb d (M + 1) K9 s2 vi ins (.slice (some ⟨gt, 0, none⟩) (met.length + 1) capt) (met ++ [fk]) (⟨xN (fk ++ nul), opA (xN (fk ++ nul)), w11.heap.size, (fun j => j = w11.heap.size), nilv, 0, none⟩ :: ot.toList)) := hide2 (G12.swap)
                    have HP12 := hide2 (HNX.out (by simp) w11.heap.size (fun j => j = w11.heap.size) nilv 0)
                    clear HNE ho12 hb12 G12 G11 HNX
                    go_wp2
                    go_roundw
                    case rel => exact ⟨t + 1, k, M + 1, K9, s2, met ++ [fk], _, ot, by omega, by go_num, rfl, rfl, rfl, HP1.out, by omega, HG12, HP12⟩
                    case measure => simp [intOf]; omega
          · exfalso
            obtain rfl : t = 200000 := by omega
            exact P.out.fin
end
end Go.Proofs.YtopihgdbfhiejaaDoor
