/-
  The document's own disk: Crash, up to the names that are left.
-/
import Derived.Test.YtolaagbdnchhiaaRDc
import Derived.Test.YtolaagbdnchhiaaLCrash2
import Derived.Test.YtolaagbdnchhiaaRD7
import Derived.Deep.DeepCutAuto
set_option linter.unusedVariables false
set_option linter.unusedSimpArgs false
namespace Go.Proofs.Ytolaagbdnchhiaa
open Go.RowKit Go.Maps

theorem flat_at : ∀ (l : List PC) (k j : Nat) (c : PC), l[k]? = some c → j < 3 → (l.flatMap chC)[k * 3 + j]? = (chC c)[j]?
  | [], k, j, c, h, _ => by cases h
  | a :: l, 0, j, c, h, hj => by
    simp at h
    subst h
    obtain ⟨x, y, i, _, e⟩ := ch_form a
    rw [List.flatMap_cons, List.getElem?_append_left (by rw [e]; simp; omega)]
    simp
  | a :: l, k + 1, j, c, h, hj => by
    obtain ⟨x, y, i, _, e⟩ := ch_form a
    have hl : (chC a).length = 3 := by rw [e]; rfl
    rw [List.flatMap_cons, List.getElem?_append_right (by rw [hl]; omega), hl, show (k + 1) * 3 + j - 3 = k * 3 + j by omega]
    exact flat_at l k j c h hj
theorem dir_succ {P : PD} {k : Nat} {c : PC} (h : P.log[k]? = some c) : P.dir (k + 1) = c.run (P.dir k) := by
  unfold PD.dir
  rw [List.take_add_one, h]
  simp [pruns]
def lft (P : PD) (ke te : Int) (p : Lit × Nat) : List Int × Nat := (leftOf ke te (P.at p.2), (leftOf ke te (P.at p.2)).length)
theorem shr_lt {a : Int} {n k : Nat} : k < shr a n ↔ k < n ∧ (k : Int) < a := by unfold shr; omega

theorem nl_renum_succ {D : PDir} {k : Nat} {p : Lit × Nat} (h : D[k]? = some p) : nl (Land.renum (D.take (k + 1))) = nl (Land.renum (D.take k)) ++ [(ks p.1, (k : Int))] := by
  have hk := (List.getElem?_eq_some_iff.1 h).1
  apply List.ext_getElem?
  intro i
  have hl : (nl (Land.renum (D.take k))).length = k := by rw [nl_len, Land.renum_len, List.length_take]; omega
  have hl1 : (nl (Land.renum (D.take (k + 1)))).length = k + 1 := by rw [nl_len, Land.renum_len, List.length_take]; omega
  by_cases hi : i < k
  · have h1 : (D.take k)[i]? = D[i]? := List.getElem?_take_of_lt hi
    have h2 : (D.take (k + 1))[i]? = D[i]? := List.getElem?_take_of_lt (by omega)
    have hd : D[i]? = some D[i] := List.getElem?_eq_getElem (by omega)
    rw [List.getElem?_append_left (by omega)]
    have e1 : (Land.renum (D.take (k + 1)))[i]? = some (D[i].1, i) := by rw [Land.renum_at, h2, hd]; rfl
    have e2 : (Land.renum (D.take k))[i]? = some (D[i].1, i) := by rw [Land.renum_at, h1, hd]; rfl
    rw [nl_at e1, nl_at e2]
  · by_cases he : i = k
    · subst he
      have e1 : (Land.renum (D.take (i + 1)))[i]? = some (p.1, i) := by rw [Land.renum_at, List.getElem?_take_of_lt (by omega), h]; rfl
      rw [nl_at e1, List.getElem?_append_right (by omega), hl, Nat.sub_self]
      rfl
    · rw [List.getElem?_eq_none (by omega), List.getElem?_eq_none (by simp; omega)]
theorem nr_snoc {w : World} {v : Value} {A B : PDir} {k : Nat} {s : ByteArray} {x : Int} (h : nl B = nl A ++ [(s, x)]) (hl : (nl A).length = k) (ho : w.ownsRow 0 101 2 v (k + 1) (nc (nl A) ++ [.string s, .int .i64 x])) : Nr w 0 v (nl B) := by
  show w.ownsRow 0 _ 2 v (nl B).length (nc (nl B))
  rw [h, List.length_append, hl, nc_append]
  exact ho

section
variable {w w' : World} {r : Nat} {κ : Nat → Ro} {vF vO vL vN : Value} {φ : Nat → Nat} {β : Nat → Value} {P : PD} {cut : Int} {off : Bool}

set_option maxHeartbeats 4000000 in
set_option maxRecDepth 100000 in
theorem ref_crash0 (h : Wd w r κ vF vO vL vN φ β P cut off) (hP : P.inv) (ke di te : Int) :
    Calls Try.prog 39 #[.pointer (some ⟨r, 0, none⟩), .agg #[.int .i64 ke, .int .i64 di, .int .i64 te]] w fun e w' => ∃ o, e = .returned (.pointer (some ⟨o, 0, none⟩)) ∧ w.heap.size ≤ o ∧ (∃ κ', RD w' o κ' (Land.crashed P ke di te) (-1) false ∧ ∀ j, j < o → κ' j = .out) ∧ Below w.heap.size w w' := by
  obtain ⟨i5, hi5, z50, z51, z52⟩ := info_parts Try.info5
  obtain ⟨iF, hiF, zF0, zF1, zF2⟩ := info_parts infoFp
  obtain ⟨iN, hiN, zN0, zN1, zN2⟩ := info_parts infoN
  have hhi := hP.hi
  have hfew := hP.few
  obtain ⟨aL, cL, hvL⟩ := row_form h.rL
  have hrL := h.rL
  have hlog : ∀ (k : Nat) (c : PC), P.log[k]? = some c → ∃ g x y i, aL = some ⟨g, 0, none⟩ ∧ chV c = .agg #[.string x, .string y, .int .i64 i] ∧ w.cell? ⟨g, k * 3, none⟩ = some (.string x) ∧ w.cell? ⟨g, k * 3 + 1, none⟩ = some (.string y) ∧ w.cell? ⟨g, k * 3 + 2, none⟩ = some (.int .i64 i) ∧ g < w.heap.size := fun k c hc => by
    have hkl := (List.getElem?_eq_some_iff.1 hc).1
    obtain ⟨g, cap, e⟩ := Go.Joins.ownsRow_form hrL (by omega)
    obtain ⟨x, y, i, ev, ec⟩ := ch_form c
    rw [e] at hrL
    rw [hvL] at e
    cases e
    refine ⟨g, x, y, i, rfl, ev, ?_, ?_, ?_, (World.ownsRow.lt hrL g rfl).2⟩
    · rw [World.ownsRow.cellAt hrL (k * 3) (by omega)]
      have := flat_at P.log k 0 c hc (by decide)
      rw [Nat.add_zero] at this
      rw [this, ec]
      rfl
    · rw [World.ownsRow.cellAt hrL (k * 3 + 1) (by omega), flat_at P.log k 1 c hc (by decide), ec]
      rfl
    · rw [World.ownsRow.cellAt hrL (k * 3 + 2) (by omega), flat_at P.log k 2 c hc (by decide), ec]
      rfl
  obtain ⟨aO, cO, hvO⟩ := h.rO.form
  rw [nl_len] at hvO
  have hlt := h.rk.lt
  have hrO := h.rO
  subst hvL hvO
  obtain ⟨c0, c1, c2, c3, c4, c5, c6⟩ := h.rk.cells
  have HW := hide2 h
  have HP := hide2 hP
  have HLOG := hide2 hlog
  have HRO := hide2 hrO
  clear h hP hlog hrO hrL
  have b0 : Below w.heap.size w (w.alloc (.cells #[.int .i64 ke, .int .i64 di, .int .i64 te] 34)) := (Below.refl _ _).alloc (Nat.le_refl _) _
  have e0 := heap_alloc_new w (.cells #[.int .i64 ke, .int .i64 di, .int .i64 te] 34)
  have s0 : (w.alloc (.cells #[.int .i64 ke, .int .i64 di, .int .i64 te] 34)).heap.size = w.heap.size + 1 := by simp
  go_enter Try.func39, Try.ntmps39
  have k1 : (w.alloc (.cells #[.int .i64 ke, .int .i64 di, .int .i64 te] 34)).cell? ⟨r, 1, none⟩ = some (.slice aO P.old.length cO) := (b0.cell (p := ⟨r, 1, none⟩) hlt).trans c1
  go_wp2
  generalize w.alloc (.cells #[.int .i64 ke, .int .i64 di, .int .i64 te] 34) = w1 at *
  go_loopw [5, 6] (fun l i wr => ∃ k : Nat, k ≤ shr di P.log.length ∧ i = .int .i64 (k : Int) ∧ Nr wr 0 l (nl (P.dir k)) ∧ Below w1.heap.size w1 wr) (fun _ i _ => P.log.length - (intOf i).toNat)
  case atStart => exact ⟨0, by omega, rfl, row_any HRO.out fun j e => b0.block j (World.ownsRow.lt HRO.out j e).2, Below.refl _ _⟩
  case round =>
    obtain ⟨k, hk, rfl, hN, hB⟩ := hrel
    have q2 : wr.cell? ⟨r, 2, none⟩ = some (.slice aL P.log.length cL) := ((hB.cell (p := ⟨r, 2, none⟩) (by show r < _; omega)).trans (b0.cell (p := ⟨r, 2, none⟩) hlt)).trans c2
    have efa : wr.heap[w.heap.size]? = some (.cells #[.int .i64 ke, .int .i64 di, .int .i64 te] 34 (0, 0)) := (hB.block _ (by omega)).trans e0
    have qd : wr.cell? ⟨w.heap.size, 1, none⟩ = some (.int .i64 di) := by rw [Go.Joins.cell_of_block efa]; rfl
    by_cases hlt2 : k < shr di P.log.length
    · obtain ⟨hkn, hkd⟩ := shr_lt.1 hlt2
      obtain ⟨c, hc⟩ : ∃ c, P.log[k]? = some c := ⟨P.log[k], List.getElem?_eq_getElem hkn⟩
      obtain ⟨g, x, y, i, rfl, ev, g0, g1, g2, hgl⟩ := HLOG.out k c hc
      have hch := changed_ref hN (HP.out.dir k (by omega)).txt (Nat.le_trans (HP.out.dir k (by omega)).len (by decide)) c (HP.out.fit k c hc)
      rw [ev] at hch
      have a0 : wr.cell? ⟨g, k * 3, none⟩ = some (.string x) := ((hB.cell (p := ⟨g, k * 3, none⟩) (by show g < _; omega)).trans (b0.cell (p := ⟨g, k * 3, none⟩) hgl)).trans g0
      have a1 : wr.cell? ⟨g, k * 3 + 1, none⟩ = some (.string y) := ((hB.cell (p := ⟨g, k * 3 + 1, none⟩) (by show g < _; omega)).trans (b0.cell (p := ⟨g, k * 3 + 1, none⟩) hgl)).trans g1
      have a2 : wr.cell? ⟨g, k * 3 + 2, none⟩ = some (.int .i64 i) := ((hB.cell (p := ⟨g, k * 3 + 2, none⟩) (by show g < _; omega)).trans (b0.cell (p := ⟨g, k * 3 + 2, none⟩) hgl)).trans g2
      have hki : (k : Int) < (P.log.length : Int) := by omega
      have hkm : (k : Int) ≤ 65536 := by omega
      have HD := hide2 (dir_succ hc)
      have HCH := hide2 hch
      clear hch g0 g1 g2 ev hN efa
      go_wp2_with fail
      refine HCH.out.mono ?_
      rintro e w3 ⟨v', rfl, hN3, hB3⟩
      have hN4 : Nr w3 0 v' (nl (P.dir (k + 1))) := by
        rw [HD.out]
        exact Go.Joins.ownsRow_le hN3 (Nat.zero_le _)
      have hB4 := hB.trans (hB3.mono hB.size)
      clear hN3 HCH a0 a1 a2
      go_wp2
      go_roundw
      case rel => exact ⟨k + 1, by omega, by go_num, hN4, hB4⟩
      case measure => simp [intOf]; omega
    · obtain rfl : k = shr di P.log.length := by omega
      replace hN : Nr wr 0 u5 (nl (P.cdir di)) := hN
      have hke : ¬ (shr di P.log.length < P.log.length ∧ (shr di P.log.length : Int) < di) := fun e => hlt2 (shr_lt.2 e)
      go_upto_region 3 with fail
      go_cut [31] (fun b wc => b = .bool false ∧ wc = wr)
      case first =>
        by_cases hkn : shr di P.log.length < P.log.length
        · have d1 : decide ((shr di P.log.length : Int) < (P.log.length : Int)) = true := by simp; omega
          have d1' : decide (shr di P.log.length < P.log.length) = true := by simp; omega
          have d2 : decide ((shr di P.log.length : Int) < di) = false := by simp; omega
          have i1 : (shr di P.log.length : Int) < (P.log.length : Int) := by omega
          have i2 : ¬ (shr di P.log.length : Int) < di := by omega
          go_wp2
          go_meet
          exact ⟨rfl, rfl⟩
        · have d1 : decide ((shr di P.log.length : Int) < (P.log.length : Int)) = false := by simp; omega
          have d1' : decide (shr di P.log.length < P.log.length) = false := by simp; omega
          have i1 : ¬ (shr di P.log.length : Int) < (P.log.length : Int) := by omega
          go_wp2
          go_meet
          exact ⟨rfl, rfl⟩
      case rest =>
        obtain ⟨rfl, hwc⟩ := hcut
        replace hwc := hwc.symm
        subst hwc
        have hnew := ref_new wr
        have hcg := Land.cdir_good HP.out di
        have hDl := hcg.len
        obtain ⟨D, hD⟩ : ∃ D, D = P.cdir di := ⟨_, rfl⟩
        obtain ⟨ad, cd, rfl⟩ := hN.form
        rw [nl_len] at *
        rw [← hD] at hN hcg hDl ⊢
        have HCG := hide2 hcg
        have HD := hide2 hD
        have HN := hide2 hN
        have HB := hide2 hB
        have HNEW := hide2 hnew
        clear hnew hcg hD hN hke hk hlt2 qd q2 efa
        go_wp2_with fail
        refine HNEW.out.mono ?_
        rintro e w2 ⟨rfl, hk2, hs2, hB2⟩
        have HK2 := hide2 hk2
        have HB2 := hide2 hB2
        have HS2 := hide2 hs2
        clear hk2 hB2 hs2 HNEW
        go_wp2
        have bR : Below w.heap.size w wr := b0.trans (HB.out.mono (by omega))
        have hW := HW.out.keep (w' := wr) ⟨bR.size, fun j hj _ => bR.block j hj⟩
        have efa : wr.heap[w.heap.size]? = some (.cells #[.int .i64 ke, .int .i64 di, .int .i64 te] 34 (0, 0)) := (HB.out.block _ (by omega)).trans e0
        have hsR : w.heap.size < wr.heap.size := by have := HB.out.size; omega
        have HWR := hide2 hW
        have BR := hide2 bR
        clear hW bR HB HLOG HRO b0 e0 s0 k1 c0 c1 c2 c3 c4 c5 c6 hB
        obtain ⟨o, ho⟩ : ∃ o, o = wr.heap.size := ⟨_, rfl⟩
        rw [← ho] at HK2 HB2 HS2 hsR ⊢
        have HO := hide2 ho
        clear ho
        obtain ⟨wR, hwR⟩ : ∃ x, x = wr := ⟨_, rfl⟩
        subst hwR
        go_loopw [8, 9, 10, 11, 12, 13, 14] (fun i _ _ _ _ _ _ u => ∃ k : Nat, k ≤ D.length ∧ i = .int .i64 (k : Int) ∧ (∃ κ2 vF2 vO2 φ2 β2, Wc u o κ2 vF2 vO2 φ2 β2 (Land.renum (D.take k)) ((D.take k).map (lft P ke te)) ∧ ∀ j, j < o → κ2 j = .out) ∧ Below o wR u) (fun i _ _ _ _ _ _ _ => D.length - (intOf i).toNat)
        case atStart => exact ⟨0, by omega, rfl, ⟨_, _, _, _, _, Wc.start HK2.out, fun j hj => if_neg (by omega)⟩, HB2.out⟩
        case round =>
          obtain ⟨k, hk, rfl, ⟨κ2, vF2, vO2, φ2, β2, hWc, hout⟩, hB⟩ := hrel
          by_cases hkl : k < D.length
          · obtain ⟨p, hp⟩ : ∃ p, D[k]? = some p := ⟨D[k], List.getElem?_eq_getElem hkl⟩
            have hpm : p ∈ D := List.mem_of_getElem? hp
            obtain ⟨a1, a2, a3, a4⟩ := Land.at_good HP.out HCG.out hpm
            have hil := (List.getElem?_eq_some_iff.1 a1).1
            obtain ⟨g, cap', e, hgg, hgl, hcell⟩ := HN.out.row (by rw [nl_len]; omega)
            rw [nl_len] at e
            cases e
            obtain ⟨n0, n1⟩ := hcell k _ (nl_at hp)
            obtain ⟨gF, capF, rfl, hcF, _⟩ := HWR.out.files (i := p.2) hil
            unfold rpt at hcF
            obtain ⟨b1, b2, b3, b4⟩ := HWR.out.fil p.2 _ a1
            obtain ⟨ab, lb, capb, hbv, hslb, _⟩ := b3.sl' a2
            rw [hbv] at b1
            have hlb : lb = (P.at p.2).1.length := hslb.1.symm
            have hoR := HO.out
            subst hoR
            have cR : wr.cell? ⟨r, 0, none⟩ = some (.slice (some ⟨gF, 0, none⟩) P.fil.length capF) := (hB.cell (p := ⟨r, 0, none⟩) (by show r < wR.heap.size; have := HWR.out.rk.lt; omega)).trans HWR.out.rk.cells.1
            have cN0 : wr.cell? ⟨g, k * 2, none⟩ = some (.string (ks p.1)) := (hB.cell (p := ⟨g, k * 2, none⟩) (by show g < wR.heap.size; omega)).trans n0
            have cN1 : wr.cell? ⟨g, k * 2 + 1, none⟩ = some (.int .i64 (p.2 : Int)) := (hB.cell (p := ⟨g, k * 2 + 1, none⟩) (by show g < wR.heap.size; omega)).trans n1
            have cFp : wr.cell? ⟨gF, p.2, none⟩ = some (.pointer (some ⟨φ p.2, 0, none⟩)) := (hB.cell (p := ⟨gF, p.2, none⟩) (by exact World.block_lt_of_cell? wR _ hcF)).trans hcF
            have cB0 : wr.cell? ⟨φ p.2, 0, none⟩ = some (.slice ab lb capb) := (hB.cell (p := ⟨φ p.2, 0, none⟩) (by show φ p.2 < wR.heap.size; have := b1.lt; omega)).trans b1.cells.1
            have cB1 : wr.cell? ⟨φ p.2, 1, none⟩ = some (.int .i64 (((P.at p.2).2 : Nat) : Int)) := (hB.cell (p := ⟨φ p.2, 1, none⟩) (by show φ p.2 < wR.heap.size; have := b1.lt; omega)).trans b1.cells.2
            have hslu : Sl wr ab lb capb (P.at p.2).1 := hslb.below hB
            have efu : wr.heap[w.heap.size]? = some (.cells #[.int .i64 ke, .int .i64 di, .int .i64 te] 34 (0, 0)) := (hB.block _ hsR).trans efa
            have cK : wr.cell? ⟨w.heap.size, 0, none⟩ = some (.int .i64 ke) := by rw [Go.Joins.cell_of_block efu]; rfl
            have cT : wr.cell? ⟨w.heap.size, 2, none⟩ = some (.int .i64 te) := by rw [Go.Joins.cell_of_block efu]; rfl
            have hki : (k : Int) < (D.length : Int) := by omega
            have hpi : (p.2 : Int) < (P.fil.length : Int) := by omega
            have HWC := hide2 hWc
            have HB3 := hide2 hB
            have HOUT := hide2 hout
            have HSLU := hide2 hslu
            have HPK := hide2 hp
            have HPB := hide2 a2
            have HPA := hide2 (rfl : lft P ke te p = lft P ke te p)
            obtain ⟨sy, hsy⟩ : ∃ sy, sy = (P.at p.2).2 := ⟨_, rfl⟩
            rw [← hsy] at cB1 a3
            rw [← hlb] at a3 a4
            have HSY := hide2 hsy
            have HLB := hide2 hlb
            clear hWc hB hout n0 n1 hcF b1 b2 b3 b4 hslb efu hcell hslu hp a1 a2 hbv hsy hlb hpm
            have hsub : (lb : Int) - (sy : Int) = ((lb - sy : Nat) : Int) := by omega
            have hst := shr_le ke (lb - sy)
            obtain ⟨st, hSt⟩ : ∃ st, st = shr ke (lb - sy) := ⟨_, rfl⟩
            have hmk : min (max ke 0) ((lb - sy : Nat) : Int) = (st : Int) := by rw [hSt]; unfold shr; omega
            rw [← hSt] at hst
            have htl := shr_le te st
            obtain ⟨tt, hTt⟩ : ∃ tt, tt = shr te st := ⟨_, rfl⟩
            have hmt : min (max te 0) (st : Int) = (tt : Int) := by rw [hTt]; unfold shr; omega
            rw [← hTt] at htl
            obtain ⟨nn, hNn⟩ : ∃ nn, nn = sy + st := ⟨_, rfl⟩
            have hns : (sy : Int) + (st : Int) = (nn : Int) := by omega
            obtain ⟨mm, hMm⟩ : ∃ mm, mm = nn - tt := ⟨_, rfl⟩
            have hnm : (nn : Int) - (tt : Int) = (mm : Int) := by omega
            have hmn : mm ≤ nn := by omega
            have hnl : nn ≤ lb := by omega
            have hLF : Hid (lft P ke te p = (turnL ((P.at p.2).1.take nn) tt, nn)) := by
              unfold Hid lft leftOf
              rw [← HSY.out, ← HLB.out, ← hSt, ← hTt, ← hNn, turnL_length, List.length_take, ← HLB.out, Nat.min_eq_left hnl]
            have hMt : mm + tt = nn := by omega
            replace hSt := hide2 hSt
            replace hTt := hide2 hTt
            replace hNn := hide2 hNn
            replace hMm := hide2 hMm
            go_wp2
            go_quiet (fail)
            obtain ⟨nq1, hnq1⟩ : ∃ x, x = nq := ⟨_, rfl⟩
            subst hnq1
            go_wp2
            go_quiet (fail)
            have wW := HWC.out.same (w' := (wr.drewN nq1).drewN nq) (fun j _ => rfl) (Nat.le_refl _)
            have sW := (HSLU.out.drewN nq1).drewN nq
            have bW : Below wR.heap.size wR ((wr.drewN nq1).drewN nq) := HB3.out.trans ⟨rfl, rfl, rfl, Nat.le_refl _, fun _ _ => rfl⟩
            have cT2 : ((wr.drewN nq1).drewN nq).cell? ⟨w.heap.size, 2, none⟩ = some (.int .i64 te) := cT
            have cB02 : ((wr.drewN nq1).drewN nq).cell? ⟨φ p.2, 0, none⟩ = some (.slice ab lb capb) := cB0
            have cB12 : ((wr.drewN nq1).drewN nq).cell? ⟨φ p.2, 1, none⟩ = some (.int .i64 (sy : Int)) := cB1
            have cN02 : ((wr.drewN nq1).drewN nq).cell? ⟨g, k * 2, none⟩ = some (.string (ks p.1)) := cN0
            clear cT cB0 cB1 cN0 cN1 cK cR cFp HWC HSLU HB3
            generalize (wr.drewN nq1).drewN nq = W at wW sW bW cT2 cB02 cB12 cN02 ⊢
            obtain ⟨X, hX⟩ : ∃ X, X = (P.at p.2).1.take nn := ⟨_, rfl⟩
            have hXl : X.length = nn := by rw [hX, List.length_take, ← HLB.out]; omega
            have hXb : Byt X := by rw [hX]; exact HPB.out.take _
            rw [← hX] at hLF
            obtain ⟨ap, hsp, hslp⟩ := sW.upto (P := Try.prog) 32 Try.underlying32 Try.size5' nn hnl
            rw [← hX] at hslp
            have hb0 : Below W.heap.size W (W.alloc (.cells #[] 5)) := (Below.refl _ _).alloc (Nat.le_refl _) _
            have hown0 : Own (W.alloc (.cells #[] 5)) W.heap.size (.slice (some ⟨W.heap.size, 0, none⟩) 0 0) [] :=
              Own.of_block (xs := []) (rest := []) (by rw [heap_alloc_new]; rfl) (Nat.le_refl _) rfl (Nat.zero_le _)
            have hslA := hslp.below hb0
            have cBA : (W.alloc (.cells #[] 5)).cell? ⟨φ p.2, 0, none⟩ = some (.slice ab lb capb) := (hb0.cell (p := ⟨φ p.2, 0, none⟩) (by exact World.block_lt_of_cell? W _ cB02)).trans cB02
            have HWW := hide2 wW
            have HBW := hide2 bW
            have HX := hide2 hX
            clear wW bW hX sW hslp
            go_wp2_with (first | (at_builtin; refine wpList_append_sl rfl _ _ 32 rfl W.heap.size i5 Try.underlying32 hi5 z50 z51 z52 _ _ rfl hown0 ap nn capb _ rfl hslA (by simp; omega) (by simp) ?_) | fail)
            intro vx w3 hown3 hb3
            replace hown3 : Own w3 W.heap.size vx X := hown3
            have hb23 : Below W.heap.size W w3 := hb0.trans hb3
            obtain ⟨ax, lx, cx, rfl, hslx, _⟩ := hown3.sl' hXb
            obtain rfl : lx = nn := by have := hslx.1; omega
            clear hb0 hb3 hown0 hslA hsp hslx cBA cB02 cB12 cT2
            have hown3' : Own w3 W.heap.size (.slice ax lx cx) (tpb X mm mm) := by rw [tpb_start]; exact hown3
            go_wp2
            go_loopw [14] (fun i u => ∃ j : Nat, mm ≤ j ∧ j ≤ lx ∧ i = .int .i64 (j : Int) ∧ Own u W.heap.size (.slice ax lx cx) (tpb X mm j) ∧ Below W.heap.size W u) (fun i _ => lx - (intOf i).toNat)
            case atStart => exact ⟨mm, Nat.le_refl _, hmn, rfl, hown3', hb23⟩
            case round =>
              obtain ⟨j, hj1, hj2, rfl, hownj, hbj⟩ := hrel
              by_cases hjl : j < lx
              · have hji : (j : Int) < (lx : Int) := by omega
                obtain ⟨g5, c5, e1, hg1, hg2, hcg, hfg, hown4⟩ := hownj.form5 j (by rw [tpb_len]; omega) (tb (X.getD j 0))
                rw [tpb_len, hXl] at e1 hown4
                simp only [Value.slice.injEq, true_and] at e1
                obtain ⟨rfl, rfl⟩ := e1
                rw [tpb_at X mm j (by omega)] at hcg
                rw [tpb_step X mm j (by omega) hj1] at hown4
                have hxb := hXb.getD j
                have hxo := xor255 (X.getD j 0) hxb.1 hxb.2
                have hb4 : Below W.heap.size W (wr.setCell ⟨g5, j, none⟩ (.int .u8 (tb (X.getD j 0)))) := hbj.setCell (by simp; omega) _
                replace hown4 := hide2 hown4
                replace hb4 := hide2 hb4
                generalize tb (X.getD j 0) = z at *
                generalize X.getD j 0 = old at *
                clear hownj hbj
                go_wp2
                go_roundw
                case rel => exact ⟨j + 1, by omega, by omega, by go_num, hown4.out, hb4.out⟩
                case measure => simp [intOf]; omega
              · have hji : ¬ (j : Int) < (lx : Int) := by omega
                have hje : j = lx := by omega
                rw [hje, tpb_end X mm lx (by omega), tnb_turnL X mm tt (by omega)] at hownj
                replace hje := hide2 hje
                have wW := HWW.out
                obtain ⟨fs, hfs⟩ : ∃ fs, fs = (D.take k).map (lft P ke te) := ⟨_, rfl⟩
                have hfl : fs.length = k := by rw [hfs]; simp; omega
                rw [← hfs] at wW
                have w5c := wW.same (w' := wr) (fun j hj => hbj.block j hj) hbj.size
                obtain ⟨aF2, cF2, hvF2⟩ := row_form w5c.rF
                obtain ⟨aO2, cO2, hvO2⟩ := w5c.rO.form
                have hrl : (nl (Land.renum (D.take k))).length = k := by rw [nl_len, Land.renum_len, List.length_take]; omega
                rw [hrl] at hvO2
                subst hvF2 hvO2
                obtain ⟨q0, -, -, -, -, -, -⟩ := w5c.rk.cells
                have HROW := hide2 w5c.rF
                have hnew : ∀ t2 j u, [Value.pointer (some ⟨wr.heap.size, 0, none⟩)][j]? = some u → ((wr.alloc (.cells #[.slice ax lx cx, .int .i64 (lx : Int)] 94)).alloc (.cells #[.pointer (some ⟨wr.heap.size, 0, none⟩)] t2)).cell? ((⟨wr.heap.size + 1, 0, none⟩ : Addr).add j) = some u := fun t2 j u hj => by
                  have := cell_one_new (wr.alloc (.cells #[.slice ax lx cx, .int .i64 (lx : Int)] 94)) _ t2 j u hj
                  simpa using this
                have HNEW := hide2 hnew
                have hfm : fs.length ≤ 64 := by omega
                have HWW2 := hide2 wW
                have HBJ := hide2 hbj
                have HOJ := hide2 hownj
                have HFS := hide2 hfs
                have HFL := hide2 hfl
                have HRL := hide2 hrl
                clear wW w5c hnew hbj hownj hfs hfl hrl HWW hown3 hown3' hb23
                go_wp2_with (at_builtin; refine wpList_append_own_at _ rfl _ _ 62 rfl 0 95 iF (.pointer none) 1 8 Try.underlying62 hiF zF0 zF1 zF2 rfl (by decide) (.slice aF2 fs.length cF2) fs.length _ rfl ((HROW.out.alloc _).alloc _) ⟨wr.heap.size + 1, 0, none⟩ 1 1 [.pointer (some ⟨wr.heap.size, 0, none⟩)] rfl rfl (HNEW.out _) (by simp [Value.oneCell']) (by unfold maxLen; omega) (by omega) (Nat.zero_le _) ?_; intro v' w6 hown6 hgrow6 _ hat6; obtain ⟨aV, cV, rfl⟩ := row_form hown6; obtain ⟨m1, m2, hH⟩ := Wc.half (sy := lx) HWW2.out HBJ.out HOJ.out _ hown6 hgrow6 hat6; replace hH := hide2 hH; clear hown6 hgrow6 hat6)
                have hgo : g ≠ wR.heap.size := by omega
                generalize w6.setCell ⟨wR.heap.size, 0, none⟩ (.slice aV (fs.length + 1) cV) = w7 at hH ⊢
                clear m1 m2
                have hWl : wR.heap.size ≤ W.heap.size := HBW.out.size
                have hgF : ∀ q, q < wR.heap.size → (Value.slice aF2 fs.length cF2).ownBlock ≠ some q ∧ (Value.slice aO2 k cO2).ownBlock ≠ some q := fun q hq => by
                  have hko := HOUT.out q hq
                  constructor
                  · intro e
                    rw [HWW2.out.kF q e] at hko
                    cases hko
                  · intro e
                    rw [HWW2.out.kO q e] at hko
                    cases hko
                have q1 : w7.cell? ⟨wR.heap.size, 1, none⟩ = some (.slice aO2 k cO2) := hH.out.rk.cells.2.1
                have cN7 : w7.cell? ⟨g, k * 2, none⟩ = some (.string (ks p.1)) := (World.cell?_of_block (w := W) (w' := w7) (hH.out.fr.block g (by omega) (by
                  rintro (e | e)
                  · exact hgo e
                  · exact (hgF g hgl).1 e))).trans cN02
                have hnr7 : w7.ownsRow 0 101 2 (.slice aO2 k cO2) k (nc (nl (Land.renum (D.take k)))) := by
                  have := hH.out.nr
                  unfold Nr at this
                  rw [HRL.out] at this
                  exact this
                have hol : ∀ j, (Value.slice aO2 k cO2).ownBlock = some j → j < w7.heap.size := fun j e => (hnr7.lt j e).2
                have hnw : ∀ j u, [Value.string (ks p.1), .int .i64 (k : Int)][j]? = some u → (w7.alloc (.cells #[.string (ks p.1), .int .i64 (k : Int)] 101)).cell? ((⟨w7.heap.size, 0, none⟩ : Addr).add j) = some u := cell_two_new w7 _ _ _
                have hnk : nl (Land.renum (D.take (k + 1))) = nl (Land.renum (D.take k)) ++ [(ks p.1, (k : Int))] := nl_renum_succ HPK.out
                have HNK := hide2 hnk
                have HNW := hide2 hnw
                have HNR := hide2 hnr7
                have HGF := hide2 hgF
                have HOL := hide2 hol
                clear hnk hnw hnr7 hgF hol hgo
                have hk64 : k ≤ 64 := by omega
                have q1A : (w7.alloc (.cells #[.string (ks p.1), .int .i64 (k : Int)] 101)).cell? ⟨wR.heap.size, 1, none⟩ = some (.slice aO2 k cO2) := (World.cell?_of_block (w := w7) (Below.heap_alloc w7 _ wR.heap.size hH.out.rk.lt)).trans q1
                obtain ⟨v8, w8, hap, hown8, hgrow8, _, hat8⟩ := run_append_own_at (P := Try.prog) ((w7.alloc (.cells #[.string (ks p.1), .int .i64 (k : Int)] 101)).drew) 0 63 63 101 iN (.agg #[.string .empty, .int .i64 0]) 2 24 Try.underlying63 hiN zN0 zN1 zN2 rfl (by decide) (.slice aO2 k cO2) k (nc (nl (Land.renum (D.take k)))) (row_any HNR.out fun j e => Below.heap_alloc w7 _ j (HOL.out j e)) ⟨w7.heap.size, 0, none⟩ 1 1 [.string (ks p.1), .int .i64 (k : Int)] rfl HNW.out (by intro u hu; simp at hu; rcases hu with rfl | rfl <;> rfl) (by unfold maxLen; omega) (by omega) (Nat.zero_le _)
                obtain ⟨g8, cap8, rfl⟩ := Go.Joins.ownsRow_form hown8 (by omega)
                have hN8 : Nr w8 0 (.slice (some ⟨g8, 0, none⟩) (k + 1) cap8) (nl (Land.renum (D.take (k + 1)))) := nr_snoc HNK.out HRL.out hown8
                have hz8 : ((w7.alloc (.cells #[.string (ks p.1), .int .i64 (k : Int)] 101)).drew).heap.size = w7.heap.size + 1 := (by simp : (w7.alloc (.cells #[.string (ks p.1), .int .i64 (k : Int)] 101)).heap.size = w7.heap.size + 1)
                obtain ⟨m3, m4, hWh, hFh⟩ := Half.whole HWW2.out hH.out (W7 := w7.alloc (.cells #[.string (ks p.1), .int .i64 (k : Int)] 101)) (fun j hj => Below.heap_alloc w7 _ j hj) (by simp) ⟨rfl, rfl, rfl, by simp, fun j hj _ => Below.heap_alloc w7 _ j hj⟩ hN8 ⟨hgrow8.os, hgrow8.tape, hgrow8.output, hgrow8.size, hgrow8.block⟩ (by
                  rcases hat8 with e | e
                  · exact .inl e.symm
                  · rw [hz8] at e
                    exact .inr ⟨_, e, by omega⟩)
                have hrel : ∃ κ' vF' vO' φ' β', Wc (w8.setCell ⟨wR.heap.size, 1, none⟩ (.slice (some ⟨g8, 0, none⟩) (k + 1) cap8)) wR.heap.size κ' vF' vO' φ' β' (Land.renum (D.take (k + 1))) ((D.take (k + 1)).map (lft P ke te)) ∧ ∀ j, j < wR.heap.size → κ' j = .out := by
                  obtain ⟨κ', φ', β', hWc', ho'⟩ := hWh
                  have e : fs ++ [(turnL X tt, lx)] = (D.take (k + 1)).map (lft P ke te) := by
                    rw [HFS.out, List.take_add_one, HPK.out]
                    simp [hLF.out]
                  rw [e] at hWc'
                  exact ⟨κ', _, _, φ', β', hWc', fun j hj => by
                    rw [ho' j (by omega)]
                    exact HOUT.out j hj⟩
                have hbel := crash_below HBW.out hFh HGF.out hWl
                have HREL := hide2 hrel
                have HBEL := hide2 hbel
                have HAP := hide2 hap
                have cN7A : (w7.alloc (.cells #[.string (ks p.1), .int .i64 (k : Int)] 101)).cell? ⟨g, k * 2, none⟩ = some (.string (ks p.1)) := (World.cell?_of_block (w := w7) (Below.heap_alloc w7 _ g (by exact World.block_lt_of_cell? w7 _ cN7))).trans cN7
                clear hrel hbel hap hown8 hgrow8 hat8 hN8 hWh hFh hz8 HNW HNR HOL HNK
                go_region_law (refine step_append_eq (by rfl) _ _ _ (by rfl) (.slice aO2 k cO2) (.slice (some ⟨w7.heap.size, 0, none⟩) 1 1) (.slice (some ⟨g8, 0, none⟩) (k + 1) cap8) w8 (by rfl) (by rfl) HAP.out ?_)
                all_goals
                  go_wp2
                  go_roundw
                  case rel => exact ⟨k + 1, by omega, by go_num, HREL.out, HBEL.out⟩
                  case measure => simp [intOf]; omega
          · obtain rfl : k = D.length := by omega
            rw [List.take_length] at hWc
            obtain ⟨q0, q1, q2, q3, q4, q5, q6⟩ := hWc.rk.cells
            have f3 := hWc.rk.free 3
            obtain ⟨aO2, cO2, rfl⟩ := hWc.rO.form
            have HWC := hide2 hWc
            have HB3 := hide2 hB
            have HOUT := hide2 hout
            clear hWc hB hout
            go_wp2
            go_ret
            refine ⟨o, rfl, by omega, ⟨κ2, ?_, HOUT.out⟩, ?_⟩
            · have := HWC.out.fin
              unfold Land.crashed
              rw [← HD.out]
              exact this
            · exact (BR.out.trans (HB3.out.mono (by omega))).setCell (by show w.heap.size ≤ o; omega) _
end
end Go.Proofs.Ytolaagbdnchhiaa
