/-
  The document's own disk: Crash, up to the names that are left.
-/
import Derived.Test.YtmggmnbialacbaaDp13
import Derived.Test.YtmggmnbialacbaaDp12
import Derived.Deep.DeepCutAuto
import Derived.Test.YtmggmnbialacbaaDp9
import Derived.Laws.AppendOwnNone
import Derived.Maps.AppendAt
set_option linter.unusedVariables false
set_option linter.unusedSimpArgs false
namespace Go.Proofs.Ytmggmnbialacbaa
open Go.RowKit Go.Maps

theorem flat_at : ∀ (l : List PC) (k j : Nat) (c : PC), l[k]? = some c → j < 3 → (l.flatMap chC)[k * 3 + j]? = (chC c)[j]?
  | [], k, j, c, h, _ => by cases h
  | a :: l, 0, j, c, h, hj => by
    simp at h
    subst h
    obtain ⟨x, y, i, _, e⟩ := ch_form a
    rw [List.flatMap_cons, List.getElem?_append_left (by rw [e]; simp; omega)]
    simp
  | a :: l, k + 1, j, c, h, hj => by
    obtain ⟨x, y, i, _, e⟩ := ch_form a
    have hl : (chC a).length = 3 := by rw [e]; rfl
    rw [List.flatMap_cons, List.getElem?_append_right (by rw [hl]; omega), hl, show (k + 1) * 3 + j - 3 = k * 3 + j by omega]
    exact flat_at l k j c h hj
theorem dir_succ {P : PD} {k : Nat} {c : PC} (h : P.log[k]? = some c) : P.dir (k + 1) = c.run (P.dir k) := by
  unfold PD.dir
  rw [List.take_add_one, h]
  simp [pruns]
def lft (P : PD) (ke te : Int) (p : Lit × Nat) : List Int × Nat := (leftOf ke te (P.at p.2), (leftOf ke te (P.at p.2)).length)
theorem shr_lt {a : Int} {n k : Nat} : k < shr a n ↔ k < n ∧ (k : Int) < a := by unfold shr; omega

theorem nl_renum_succ {D : PDir} {k : Nat} {p : Lit × Nat} (h : D[k]? = some p) : nl (Land.renum (D.take (k + 1))) = nl (Land.renum (D.take k)) ++ [(ks p.1, (k : Int))] := by
  have hk := (List.getElem?_eq_some_iff.1 h).1
  apply List.ext_getElem?
  intro i
  have hl : (nl (Land.renum (D.take k))).length = k := by rw [nl_len, Land.renum_len, List.length_take]; omega
  have hl1 : (nl (Land.renum (D.take (k + 1)))).length = k + 1 := by rw [nl_len, Land.renum_len, List.length_take]; omega
  by_cases hi : i < k
  · have h1 : (D.take k)[i]? = D[i]? := List.getElem?_take_of_lt hi
    have h2 : (D.take (k + 1))[i]? = D[i]? := List.getElem?_take_of_lt (by omega)
    have hd : D[i]? = some D[i] := List.getElem?_eq_getElem (by omega)
    rw [List.getElem?_append_left (by omega)]
    have e1 : (Land.renum (D.take (k + 1)))[i]? = some (D[i].1, i) := by rw [Land.renum_at, h2, hd]; rfl
    have e2 : (Land.renum (D.take k))[i]? = some (D[i].1, i) := by rw [Land.renum_at, h1, hd]; rfl
    rw [nl_at e1, nl_at e2]
  · by_cases he : i = k
    · subst he
      have e1 : (Land.renum (D.take (i + 1)))[i]? = some (p.1, i) := by rw [Land.renum_at, List.getElem?_take_of_lt (by omega), h]; rfl
      rw [nl_at e1, List.getElem?_append_right (by omega), hl, Nat.sub_self]
      rfl
    · rw [List.getElem?_eq_none (by omega), List.getElem?_eq_none (by simp; omega)]
theorem nr_snoc {w : World} {v : Value} {A B : PDir} {k : Nat} {s : ByteArray} {x : Int} (h : nl B = nl A ++ [(s, x)]) (hl : (nl A).length = k) (ho : w.ownsRow 0 101 2 v (k + 1) (nc (nl A) ++ [.string s, .int .i64 x])) : Nr w 0 v (nl B) := by
  show w.ownsRow 0 _ 2 v (nl B).length (nc (nl B))
  rw [h, List.length_append, hl, nc_append]
  exact ho

section
variable {w w' : World} {r : Nat} {κ : Nat → Ro} {vF vO vL vN : Value} {φ : Nat → Nat} {β : Nat → Value} {P : PD} {cut : Int} {off : Bool}

set_option maxHeartbeats 4000000 in
set_option maxRecDepth 100000 in
theorem ref_crash0 (h : Wd w r κ vF vO vL vN φ β P cut off) (hP : P.inv) (ke di te : Int) :
    Calls Try.prog 39 #[.pointer (some ⟨r, 0, none⟩), .agg #[.int .i64 ke, .int .i64 di, .int .i64 te]] w fun e w' => ∃ o, e = .returned (.pointer (some ⟨o, 0, none⟩)) ∧ w.heap.size ≤ o ∧ (∃ κ', RD w' o κ' (Land.crashed P ke di te) (-1) false ∧ ∀ j, j < o → κ' j = .out) ∧ Below w.heap.size w w' := by
  obtain ⟨i5, hi5, z50, z51, z52⟩ := info_parts Try.info5
  obtain ⟨iF, hiF, zF0, zF1, zF2⟩ := info_parts infoFp
  obtain ⟨iN, hiN, zN0, zN1, zN2⟩ := info_parts infoN
  have hhi := hP.hi
  have hfew := hP.few
  obtain ⟨aL, cL, hvL⟩ := row_form h.rL
  have hrL := h.rL
  have hlog : ∀ (k : Nat) (c : PC), P.log[k]? = some c → ∃ g x y i, aL = some ⟨g, 0, none⟩ ∧ chV c = .agg #[.string x, .string y, .int .i64 i] ∧ w.cell? ⟨g, k * 3, none⟩ = some (.string x) ∧ w.cell? ⟨g, k * 3 + 1, none⟩ = some (.string y) ∧ w.cell? ⟨g, k * 3 + 2, none⟩ = some (.int .i64 i) ∧ g < w.heap.size := fun k c hc => by
    have hkl := (List.getElem?_eq_some_iff.1 hc).1
    obtain ⟨g, cap, e⟩ := Go.Joins.ownsRow_form hrL (by omega)
    obtain ⟨x, y, i, ev, ec⟩ := ch_form c
    rw [e] at hrL
    rw [hvL] at e
    cases e
    refine ⟨g, x, y, i, rfl, ev, ?_, ?_, ?_, (World.ownsRow.lt hrL g rfl).2⟩
    · rw [World.ownsRow.cellAt hrL (k * 3) (by omega)]
      have := flat_at P.log k 0 c hc (by decide)
      rw [Nat.add_zero] at this
      rw [this, ec]
      rfl
    · rw [World.ownsRow.cellAt hrL (k * 3 + 1) (by omega), flat_at P.log k 1 c hc (by decide), ec]
      rfl
    · rw [World.ownsRow.cellAt hrL (k * 3 + 2) (by omega), flat_at P.log k 2 c hc (by decide), ec]
      rfl
  obtain ⟨aO, cO, hvO⟩ := h.rO.form
  rw [nl_len] at hvO
  have hlt := h.rk.lt
  have hrO := h.rO
  subst hvL hvO
  obtain ⟨c0, c1, c2, c3, c4, c5, c6⟩ := h.rk.cells
  have HW := hide2 h
  have HP := hide2 hP
  have HLOG := hide2 hlog
  have HRO := hide2 hrO
  clear h hP hlog hrO hrL
  have b0 : Below w.heap.size w (w.alloc (.cells #[.int .i64 ke, .int .i64 di, .int .i64 te] 34)) := (Below.refl _ _).alloc (Nat.le_refl _) _
  have e0 := heap_alloc_new w (.cells #[.int .i64 ke, .int .i64 di, .int .i64 te] 34)
  have s0 : (w.alloc (.cells #[.int .i64 ke, .int .i64 di, .int .i64 te] 34)).heap.size = w.heap.size + 1 := by simp
  go_enter Try.func39, Try.ntmps39
  have k1 : (w.alloc (.cells #[.int .i64 ke, .int .i64 di, .int .i64 te] 34)).cell? ⟨r, 1, none⟩ = some (.slice aO P.old.length cO) := (b0.cell (p := ⟨r, 1, none⟩) hlt).trans c1
  go_wp2
  generalize w.alloc (.cells #[.int .i64 ke, .int .i64 di, .int .i64 te] 34) = w1 at *
  go_loopw [5, 6] (fun l i wr => ∃ k : Nat, k ≤ shr di P.log.length ∧ i = .int .i64 (k : Int) ∧ Nr wr 0 l (nl (P.dir k)) ∧ Below w1.heap.size w1 wr) (fun _ i _ => P.log.length - (intOf i).toNat)
  case atStart => exact ⟨0, by omega, rfl, row_any HRO.out fun j e => b0.block j (World.ownsRow.lt HRO.out j e).2, Below.refl _ _⟩
  case round =>
    obtain ⟨k, hk, rfl, hN, hB⟩ := hrel
    have q2 : wr.cell? ⟨r, 2, none⟩ = some (.slice aL P.log.length cL) := ((hB.cell (p := ⟨r, 2, none⟩) (by show r < _; omega)).trans (b0.cell (p := ⟨r, 2, none⟩) hlt)).trans c2
    have efa : wr.heap[w.heap.size]? = some (.cells #[.int .i64 ke, .int .i64 di, .int .i64 te] 34 (0, 0)) := (hB.block _ (by omega)).trans e0
    have qd : wr.cell? ⟨w.heap.size, 1, none⟩ = some (.int .i64 di) := by rw [Go.Joins.cell_of_block efa]; rfl
    by_cases hlt2 : k < shr di P.log.length
    · obtain ⟨hkn, hkd⟩ := shr_lt.1 hlt2
      obtain ⟨c, hc⟩ : ∃ c, P.log[k]? = some c := ⟨P.log[k], List.getElem?_eq_getElem hkn⟩
      obtain ⟨g, x, y, i, rfl, ev, g0, g1, g2, hgl⟩ := HLOG.out k c hc
      have hch := changed_ref hN (HP.out.dir k (by omega)).txt (Nat.le_trans (HP.out.dir k (by omega)).len (by decide)) c (HP.out.fit k c hc)
      rw [ev] at hch
      have a0 : wr.cell? ⟨g, k * 3, none⟩ = some (.string x) := ((hB.cell (p := ⟨g, k * 3, none⟩) (by show g < _; omega)).trans (b0.cell (p := ⟨g, k * 3, none⟩) hgl)).trans g0
      have a1 : wr.cell? ⟨g, k * 3 + 1, none⟩ = some (.string y) := ((hB.cell (p := ⟨g, k * 3 + 1, none⟩) (by show g < _; omega)).trans (b0.cell (p := ⟨g, k * 3 + 1, none⟩) hgl)).trans g1
      have a2 : wr.cell? ⟨g, k * 3 + 2, none⟩ = some (.int .i64 i) := ((hB.cell (p := ⟨g, k * 3 + 2, none⟩) (by show g < _; omega)).trans (b0.cell (p := ⟨g, k * 3 + 2, none⟩) hgl)).trans g2
      have hki : (k : Int) < (P.log.length : Int) := by omega
      have hkm : (k : Int) ≤ 65536 := by omega
      have HD := hide2 (dir_succ hc)
      have HCH := hide2 hch
      clear hch g0 g1 g2 ev hN efa
      go_wp2_with fail
      refine HCH.out.mono ?_
      rintro e w3 ⟨v', rfl, hN3, hB3⟩
      have hN4 : Nr w3 0 v' (nl (P.dir (k + 1))) := by
        rw [HD.out]
        exact Go.Joins.ownsRow_le hN3 (Nat.zero_le _)
      have hB4 := hB.trans (hB3.mono hB.size)
      clear hN3 HCH a0 a1 a2
      go_wp2
      go_roundw
      case rel => exact ⟨k + 1, by omega, by go_num, hN4, hB4⟩
      case measure => simp [intOf]; omega
    · obtain rfl : k = shr di P.log.length := by omega
      replace hN : Nr wr 0 u5 (nl (P.cdir di)) := hN
      have hke : ¬ (shr di P.log.length < P.log.length ∧ (shr di P.log.length : Int) < di) := fun e => hlt2 (shr_lt.2 e)
      go_upto_region 3 with fail
      go_cut [31] (fun b wc => b = .bool false ∧ wc = wr)
      case first =>
        by_cases hkn : shr di P.log.length < P.log.length
        · have d1 : decide ((shr di P.log.length : Int) < (P.log.length : Int)) = true := by simp; omega
          have d1' : decide (shr di P.log.length < P.log.length) = true := by simp; omega
          have d2 : decide ((shr di P.log.length : Int) < di) = false := by simp; omega
          have i1 : (shr di P.log.length : Int) < (P.log.length : Int) := by omega
          have i2 : ¬ (shr di P.log.length : Int) < di := by omega
          go_wp2
          go_meet
          exact ⟨rfl, rfl⟩
        · have d1 : decide ((shr di P.log.length : Int) < (P.log.length : Int)) = false := by simp; omega
          have d1' : decide (shr di P.log.length < P.log.length) = false := by simp; omega
          have i1 : ¬ (shr di P.log.length : Int) < (P.log.length : Int) := by omega
          go_wp2
          go_meet
          exact ⟨rfl, rfl⟩
      case rest =>
        obtain ⟨rfl, hwc⟩ := hcut
        replace hwc := hwc.symm
        subst hwc
        have hnew := ref_new wr
        have hcg := Land.cdir_good HP.out di
        have hDl := hcg.len
        obtain ⟨D, hD⟩ : ∃ D, D = P.cdir di := ⟨_, rfl⟩
        obtain ⟨ad, cd, rfl⟩ := hN.form
        rw [nl_len] at *
        rw [← hD] at hN hcg hDl ⊢
        have HCG := hide2 hcg
        have HD := hide2 hD
        have HN := hide2 hN
        have HB := hide2 hB
        have HNEW := hide2 hnew
        clear hnew hcg hD hN hke hk hlt2 qd q2 efa
        go_wp2_with fail
        refine HNEW.out.mono ?_
        rintro e w2 ⟨rfl, hk2, hs2, hB2⟩
        have HK2 := hide2 hk2
        have HB2 := hide2 hB2
        have HS2 := hide2 hs2
        clear hk2 hB2 hs2 HNEW
        go_wp2
        have bR : Below w.heap.size w wr := b0.trans (HB.out.mono (by omega))
        have hW := HW.out.keep (w' := wr) ⟨bR.size, fun j hj _ => bR.block j hj⟩
        have efa : wr.heap[w.heap.size]? = some (.cells #[.int .i64 ke, .int .i64 di, .int .i64 te] 34 (0, 0)) := (HB.out.block _ (by omega)).trans e0
        have hsR : w.heap.size < wr.heap.size := by have := HB.out.size; omega
        have HWR := hide2 hW
        have BR := hide2 bR
        clear hW bR HB HLOG HRO b0 e0 s0 k1 c0 c1 c2 c3 c4 c5 c6 hB
        obtain ⟨o, ho⟩ : ∃ o, o = wr.heap.size := ⟨_, rfl⟩
        rw [← ho] at HK2 HB2 HS2 hsR ⊢
        have HO := hide2 ho
        clear ho
        obtain ⟨wR, hwR⟩ : ∃ x, x = wr := ⟨_, rfl⟩
        subst hwR
        go_loopw [8, 9, 10, 11, 12, 13, 14] (fun i _ _ _ _ _ _ u => ∃ k : Nat, k ≤ D.length ∧ i = .int .i64 (k : Int) ∧ (∃ κ2 vF2 vO2 φ2 β2, Wc u o κ2 vF2 vO2 φ2 β2 (Land.renum (D.take k)) ((D.take k).map (lft P ke te)) ∧ ∀ j, j < o → κ2 j = .out) ∧ Below o wR u) (fun i _ _ _ _ _ _ _ => D.length - (intOf i).toNat)
        case atStart => exact ⟨0, by omega, rfl, ⟨_, _, _, _, _, Wc.start HK2.out, fun j hj => if_neg (by omega)⟩, HB2.out⟩
        case round =>
          obtain ⟨k, hk, rfl, ⟨κ2, vF2, vO2, φ2, β2, hWc, hout⟩, hB⟩ := hrel
          by_cases hkl : k < D.length
          · obtain ⟨p, hp⟩ : ∃ p, D[k]? = some p := ⟨D[k], List.getElem?_eq_getElem hkl⟩
            have hpm : p ∈ D := List.mem_of_getElem? hp
            obtain ⟨a1, a2, a3, a4⟩ := Land.at_good HP.out HCG.out hpm
            have hil := (List.getElem?_eq_some_iff.1 a1).1
            obtain ⟨g, cap', e, hgg, hgl, hcell⟩ := HN.out.row (by rw [nl_len]; omega)
            rw [nl_len] at e
            cases e
            obtain ⟨n0, n1⟩ := hcell k _ (nl_at hp)
            obtain ⟨gF, capF, rfl, hcF, _⟩ := HWR.out.files (i := p.2) hil
            unfold rpt at hcF
            obtain ⟨b1, b2, b3, b4⟩ := HWR.out.fil p.2 _ a1
            obtain ⟨ab, lb, capb, hbv, hslb, _⟩ := b3.sl' a2
            rw [hbv] at b1
            have hlb : lb = (P.at p.2).1.length := hslb.1.symm
            have hoR := HO.out
            subst hoR
            have cR : wr.cell? ⟨r, 0, none⟩ = some (.slice (some ⟨gF, 0, none⟩) P.fil.length capF) := (hB.cell (p := ⟨r, 0, none⟩) (by show r < wR.heap.size; have := HWR.out.rk.lt; omega)).trans HWR.out.rk.cells.1
            have cN0 : wr.cell? ⟨g, k * 2, none⟩ = some (.string (ks p.1)) := (hB.cell (p := ⟨g, k * 2, none⟩) (by show g < wR.heap.size; omega)).trans n0
            have cN1 : wr.cell? ⟨g, k * 2 + 1, none⟩ = some (.int .i64 (p.2 : Int)) := (hB.cell (p := ⟨g, k * 2 + 1, none⟩) (by show g < wR.heap.size; omega)).trans n1
            have cFp : wr.cell? ⟨gF, p.2, none⟩ = some (.pointer (some ⟨φ p.2, 0, none⟩)) := (hB.cell (p := ⟨gF, p.2, none⟩) (by exact World.block_lt_of_cell? wR _ hcF)).trans hcF
            have cB0 : wr.cell? ⟨φ p.2, 0, none⟩ = some (.slice ab lb capb) := (hB.cell (p := ⟨φ p.2, 0, none⟩) (by show φ p.2 < wR.heap.size; have := b1.lt; omega)).trans b1.cells.1
            have cB1 : wr.cell? ⟨φ p.2, 1, none⟩ = some (.int .i64 (((P.at p.2).2 : Nat) : Int)) := (hB.cell (p := ⟨φ p.2, 1, none⟩) (by show φ p.2 < wR.heap.size; have := b1.lt; omega)).trans b1.cells.2
            have hslu : Sl wr ab lb capb (P.at p.2).1 := hslb.below hB
            have efu : wr.heap[w.heap.size]? = some (.cells #[.int .i64 ke, .int .i64 di, .int .i64 te] 34 (0, 0)) := (hB.block _ hsR).trans efa
            have cK : wr.cell? ⟨w.heap.size, 0, none⟩ = some (.int .i64 ke) := by rw [Go.Joins.cell_of_block efu]; rfl
            have cT : wr.cell? ⟨w.heap.size, 2, none⟩ = some (.int .i64 te) := by rw [Go.Joins.cell_of_block efu]; rfl
            have hki : (k : Int) < (D.length : Int) := by omega
            have hpi : (p.2 : Int) < (P.fil.length : Int) := by omega
            have HWC := hide2 hWc
            have HB3 := hide2 hB
            have HOUT := hide2 hout
            have HSLU := hide2 hslu
            have HPK := hide2 hp
            have HPB := hide2 a2
            have HPA := hide2 (rfl : lft P ke te p = lft P ke te p)
            obtain ⟨sy, hsy⟩ : ∃ sy, sy = (P.at p.2).2 := ⟨_, rfl⟩
            rw [← hsy] at cB1 a3
            rw [← hlb] at a3 a4
            have HSY := hide2 hsy
            have HLB := hide2 hlb
            clear hWc hB hout n0 n1 hcF b1 b2 b3 b4 hslb efu hcell hslu hp a1 a2 hbv hsy hlb hpm
            have hsub : (lb : Int) - (sy : Int) = ((lb - sy : Nat) : Int) := by omega
            have hst := shr_le ke (lb - sy)
            obtain ⟨st, hSt⟩ : ∃ st, st = shr ke (lb - sy) := ⟨_, rfl⟩
            have hmk : min (max ke 0) ((lb - sy : Nat) : Int) = (st : Int) := by rw [hSt]; unfold shr; omega
            rw [← hSt] at hst
            have htl := shr_le te st
            obtain ⟨tt, hTt⟩ : ∃ tt, tt = shr te st := ⟨_, rfl⟩
            have hmt : min (max te 0) (st : Int) = (tt : Int) := by rw [hTt]; unfold shr; omega
            rw [← hTt] at htl
            obtain ⟨nn, hNn⟩ : ∃ nn, nn = sy + st := ⟨_, rfl⟩
            have hns : (sy : Int) + (st : Int) = (nn : Int) := by omega
            obtain ⟨mm, hMm⟩ : ∃ mm, mm = nn - tt := ⟨_, rfl⟩
            have hnm : (nn : Int) - (tt : Int) = (mm : Int) := by omega
            have hmn : mm ≤ nn := by omega
            have hnl : nn ≤ lb := by omega
            have hLF : Hid (lft P ke te p = (turnL ((P.at p.2).1.take nn) tt, nn)) := by
              unfold Hid lft leftOf
              rw [← HSY.out, ← HLB.out, ← hSt, ← hTt, ← hNn, turnL_length, List.length_take, ← HLB.out, Nat.min_eq_left hnl]
            have hMt : mm + tt = nn := by omega
            replace hSt := hide2 hSt
            replace hTt := hide2 hTt
            replace hNn := hide2 hNn
            replace hMm := hide2 hMm
            go_wp2
            go_quiet (fail)
            obtain ⟨nq1, hnq1⟩ : ∃ x, x = nq := ⟨_, rfl⟩
            subst hnq1
            go_wp2
            go_quiet (fail)
            have wW := HWC.out.same (w' := (wr.drewN nq1).drewN nq) (fun j _ => rfl) (Nat.le_refl _)
            have sW := (HSLU.out.drewN nq1).drewN nq
            have bW : Below wR.heap.size wR ((wr.drewN nq1).drewN nq) := HB3.out.trans ⟨rfl, rfl, rfl, Nat.le_refl _, fun _ _ => rfl⟩
            have cT2 : ((wr.drewN nq1).drewN nq).cell? ⟨w.heap.size, 2, none⟩ = some (.int .i64 te) := cT
            have cB02 : ((wr.drewN nq1).drewN nq).cell? ⟨φ p.2, 0, none⟩ = some (.slice ab lb capb) := cB0
            have cB12 : ((wr.drewN nq1).drewN nq).cell? ⟨φ p.2, 1, none⟩ = some (.int .i64 (sy : Int)) := cB1
            have cN02 : ((wr.drewN nq1).drewN nq).cell? ⟨g, k * 2, none⟩ = some (.string (ks p.1)) := cN0
            clear cT cB0 cB1 cN0 cN1 cK cR cFp HWC HSLU HB3
            generalize (wr.drewN nq1).drewN nq = W at wW sW bW cT2 cB02 cB12 cN02 ⊢
            obtain ⟨X, hX⟩ : ∃ X, X = (P.at p.2).1.take nn := ⟨_, rfl⟩
            have hXl : X.length = nn := by rw [hX, List.length_take, ← HLB.out]; omega
            have hXb : Byt X := by rw [hX]; exact HPB.out.take _
            rw [← hX] at hLF
            obtain ⟨ap, hsp, hslp⟩ := sW.upto (P := Try.prog) 32 Try.underlying32 Try.size5' nn hnl
            rw [← hX] at hslp
            have hb0 : Below W.heap.size W (W.alloc (.cells #[] 5)) := (Below.refl _ _).alloc (Nat.le_refl _) _
            have hown0 : Own (W.alloc (.cells #[] 5)) W.heap.size (.slice (some ⟨W.heap.size, 0, none⟩) 0 0) [] :=
              Own.of_block (xs := []) (rest := []) (by rw [heap_alloc_new]; rfl) (Nat.le_refl _) rfl (Nat.zero_le _)
            have hslA := hslp.below hb0
            have cBA : (W.alloc (.cells #[] 5)).cell? ⟨φ p.2, 0, none⟩ = some (.slice ab lb capb) := (hb0.cell (p := ⟨φ p.2, 0, none⟩) (by exact World.block_lt_of_cell? W _ cB02)).trans cB02
            have HWW := hide2 wW
            have HBW := hide2 bW
            have HX := hide2 hX
            clear wW bW hX sW hslp
            go_wp2_with (first | (at_builtin; refine wpList_append_sl rfl _ _ 32 rfl W.heap.size i5 Try.underlying32 hi5 z50 z51 z52 _ _ rfl hown0 ap nn capb _ rfl hslA (by simp; omega) (by simp) ?_) | fail)
            intro vx w3 hown3 hb3
            replace hown3 : Own w3 W.heap.size vx X := hown3
            have hb23 : Below W.heap.size W w3 := hb0.trans hb3
            obtain ⟨ax, lx, cx, rfl, hslx, _⟩ := hown3.sl' hXb
            obtain rfl : lx = nn := by have := hslx.1; omega
            clear hb0 hb3 hown0 hslA hsp hslx cBA cB02 cB12 cT2
            have hown3' : Own w3 W.heap.size (.slice ax lx cx) (tpb X mm mm) := by rw [tpb_start]; exact hown3
            go_wp2
            go_loopw [14] (fun i u => ∃ j : Nat, mm ≤ j ∧ j ≤ lx ∧ i = .int .i64 (j : Int) ∧ Own u W.heap.size (.slice ax lx cx) (tpb X mm j) ∧ Below W.heap.size W u) (fun i _ => lx - (intOf i).toNat)
            case atStart => exact ⟨mm, Nat.le_refl _, hmn, rfl, hown3', hb23⟩
            case round =>
              obtain ⟨j, hj1, hj2, rfl, hownj, hbj⟩ := hrel
              by_cases hjl : j < lx
              · have hji : (j : Int) < (lx : Int) := by omega
                obtain ⟨g5, c5, e1, hg1, hg2, hcg, hfg, hown4⟩ := hownj.form5 j (by rw [tpb_len]; omega) (tb (X.getD j 0))
                rw [tpb_len, hXl] at e1 hown4
                simp only [Value.slice.injEq, true_and] at e1
                obtain ⟨rfl, rfl⟩ := e1
                rw [tpb_at X mm j (by omega)] at hcg
                rw [tpb_step X mm j (by omega) hj1] at hown4
                have hxb := hXb.getD j
                have hxo := xor255 (X.getD j 0) hxb.1 hxb.2
                have hb4 : Below W.heap.size W (wr.setCell ⟨g5, j, none⟩ (.int .u8 (tb (X.getD j 0)))) := hbj.setCell (by simp; omega) _
                replace hown4 := hide2 hown4
                replace hb4 := hide2 hb4
                generalize tb (X.getD j 0) = z at *
                generalize X.getD j 0 = old at *
                clear hownj hbj
                go_wp2
                go_roundw
                case rel => exact ⟨j + 1, by omega, by omega, by go_num, hown4.out, hb4.out⟩
                case measure => simp [intOf]; omega
              · have hji : ¬ (j : Int) < (lx : Int) := by omega
                have hje : j = lx := by omega
                rw [hje, tpb_end X mm lx (by omega), tnb_turnL X mm tt (by omega)] at hownj
                replace hje := hide2 hje
                have wW := HWW.out
                obtain ⟨fs, hfs⟩ : ∃ fs, fs = (D.take k).map (lft P ke te) := ⟨_, rfl⟩
                have hfl : fs.length = k := by rw [hfs]; simp; omega
                rw [← hfs] at wW
                have w5c := wW.same (w' := wr) (fun j hj => hbj.block j hj) hbj.size
                obtain ⟨aF2, cF2, hvF2⟩ := row_form w5c.rF
                obtain ⟨aO2, cO2, hvO2⟩ := w5c.rO.form
                have hrl : (nl (Land.renum (D.take k))).length = k := by rw [nl_len, Land.renum_len, List.length_take]; omega
                rw [hrl] at hvO2
                subst hvF2 hvO2
                obtain ⟨q0, -, -, -, -, -, -⟩ := w5c.rk.cells
                have HROW := hide2 w5c.rF
                have hnew : ∀ t2 j u, [Value.pointer (some ⟨wr.heap.size, 0, none⟩)][j]? = some u → ((wr.alloc (.cells #[.slice ax lx cx, .int .i64 (lx : Int)] 94)).alloc (.cells #[.pointer (some ⟨wr.heap.size, 0, none⟩)] t2)).cell? ((⟨wr.heap.size + 1, 0, none⟩ : Addr).add j) = some u := fun t2 j u hj => by
                  have := cell_one_new (wr.alloc (.cells #[.slice ax lx cx, .int .i64 (lx : Int)] 94)) _ t2 j u hj
                  simpa using this
                have HNEW := hide2 hnew
                have hfm : fs.length ≤ 64 := by omega
                have HWW2 := hide2 wW
                have HBJ := hide2 hbj
                have HOJ := hide2 hownj
                have HFS := hide2 hfs
                have HFL := hide2 hfl
                have HRL := hide2 hrl
                clear wW w5c hnew hbj hownj hfs hfl hrl HWW hown3 hown3' hb23
                go_wp2_with (at_builtin; refine wpList_append_own_at _ rfl _ _ 62 rfl 0 95 iF (.pointer none) 1 8 Try.underlying62 hiF zF0 zF1 zF2 rfl (by decide) (.slice aF2 fs.length cF2) fs.length _ rfl ((HROW.out.alloc _).alloc _) ⟨wr.heap.size + 1, 0, none⟩ 1 1 [.pointer (some ⟨wr.heap.size, 0, none⟩)] rfl rfl (HNEW.out _) (by simp [Value.oneCell']) (by unfold maxLen; omega) (by omega) (Nat.zero_le _) ?_; intro v' w6 hown6 hgrow6 _ hat6; obtain ⟨aV, cV, rfl⟩ := row_form hown6; obtain ⟨m1, m2, hH⟩ := Wc.half (sy := lx) HWW2.out HBJ.out HOJ.out _ hown6 hgrow6 hat6; replace hH := hide2 hH; clear hown6 hgrow6 hat6)
                have hgo : g ≠ wR.heap.size := by omega
                generalize w6.setCell ⟨wR.heap.size, 0, none⟩ (.slice aV (fs.length + 1) cV) = w7 at hH ⊢
                clear m1 m2
                have hWl : wR.heap.size ≤ W.heap.size := HBW.out.size
                have hgF : ∀ q, q < wR.heap.size → (Value.slice aF2 fs.length cF2).ownBlock ≠ some q ∧ (Value.slice aO2 k cO2).ownBlock ≠ some q := fun q hq => by
                  have hko := HOUT.out q hq
                  constructor
                  · intro e
                    rw [HWW2.out.kF q e] at hko
                    cases hko
                  · intro e
                    rw [HWW2.out.kO q e] at hko
                    cases hko
                have q1 : w7.cell? ⟨wR.heap.size, 1, none⟩ = some (.slice aO2 k cO2) := hH.out.rk.cells.2.1
                have cN7 : w7.cell? ⟨g, k * 2, none⟩ = some (.string (ks p.1)) := (World.cell?_of_block (w := W) (w' := w7) (hH.out.fr.block g (by omega) (by
                  rintro (e | e)
                  · exact hgo e
                  · exact (hgF g hgl).1 e))).trans cN02
                have hnr7 : w7.ownsRow 0 101 2 (.slice aO2 k cO2) k (nc (nl (Land.renum (D.take k)))) := by
                  have := hH.out.nr
                  unfold Nr at this
                  rw [HRL.out] at this
                  exact this
                have hol : ∀ j, (Value.slice aO2 k cO2).ownBlock = some j → j < w7.heap.size := fun j e => (hnr7.lt j e).2
                have hnw : ∀ j u, [Value.string (ks p.1), .int .i64 (k : Int)][j]? = some u → (w7.alloc (.cells #[.string (ks p.1), .int .i64 (k : Int)] 101)).cell? ((⟨w7.heap.size, 0, none⟩ : Addr).add j) = some u := cell_two_new w7 _ _ _
                have hnk : nl (Land.renum (D.take (k + 1))) = nl (Land.renum (D.take k)) ++ [(ks p.1, (k : Int))] := nl_renum_succ HPK.out
                have HNK := hide2 hnk
                have HNW := hide2 hnw
                have HNR := hide2 hnr7
                have HGF := hide2 hgF
                have HOL := hide2 hol
                clear hnk hnw hnr7 hgF hol hgo
                have hk64 : k ≤ 64 := by omega
                have q1A : (w7.alloc (.cells #[.string (ks p.1), .int .i64 (k : Int)] 101)).cell? ⟨wR.heap.size, 1, none⟩ = some (.slice aO2 k cO2) := (World.cell?_of_block (w := w7) (Below.heap_alloc w7 _ wR.heap.size hH.out.rk.lt)).trans q1
                obtain ⟨v8, w8, hap, hown8, hgrow8, _, hat8⟩ := run_append_own_at (P := Try.prog) ((w7.alloc (.cells #[.string (ks p.1), .int .i64 (k : Int)] 101)).drew) 0 63 63 101 iN (.agg #[.string .empty, .int .i64 0]) 2 24 Try.underlying63 hiN zN0 zN1 zN2 rfl (by decide) (.slice aO2 k cO2) k (nc (nl (Land.renum (D.take k)))) (row_any HNR.out fun j e => Below.heap_alloc w7 _ j (HOL.out j e)) ⟨w7.heap.size, 0, none⟩ 1 1 [.string (ks p.1), .int .i64 (k : Int)] rfl HNW.out (by intro u hu; simp at hu; rcases hu with rfl | rfl <;> rfl) (by unfold maxLen; omega) (by omega) (Nat.zero_le _)
                obtain ⟨g8, cap8, rfl⟩ := Go.Joins.ownsRow_form hown8 (by omega)
                have hN8 : Nr w8 0 (.slice (some ⟨g8, 0, none⟩) (k + 1) cap8) (nl (Land.renum (D.take (k + 1)))) := nr_snoc HNK.out HRL.out hown8
                have hz8 : ((w7.alloc (.cells #[.string (ks p.1), .int .i64 (k : Int)] 101)).drew).heap.size = w7.heap.size + 1 := (by simp : (w7.alloc (.cells #[.string (ks p.1), .int .i64 (k : Int)] 101)).heap.size = w7.heap.size + 1)
                obtain ⟨m3, m4, hWh, hFh⟩ := Half.whole HWW2.out hH.out (W7 := w7.alloc (.cells #[.string (ks p.1), .int .i64 (k : Int)] 101)) (fun j hj => Below.heap_alloc w7 _ j hj) (by simp) ⟨rfl, rfl, rfl, by simp, fun j hj _ => Below.heap_alloc w7 _ j hj⟩ hN8 ⟨hgrow8.os, hgrow8.tape, hgrow8.output, hgrow8.size, hgrow8.block⟩ (by
                  rcases hat8 with e | e
                  · exact .inl e.symm
                  · rw [hz8] at e
                    exact .inr ⟨_, e, by omega⟩)
                have hrel : ∃ κ' vF' vO' φ' β', Wc (w8.setCell ⟨wR.heap.size, 1, none⟩ (.slice (some ⟨g8, 0, none⟩) (k + 1) cap8)) wR.heap.size κ' vF' vO' φ' β' (Land.renum (D.take (k + 1))) ((D.take (k + 1)).map (lft P ke te)) ∧ ∀ j, j < wR.heap.size → κ' j = .out := by
                  obtain ⟨κ', φ', β', hWc', ho'⟩ := hWh
                  have e : fs ++ [(turnL X tt, lx)] = (D.take (k + 1)).map (lft P ke te) := by
                    rw [HFS.out, List.take_add_one, HPK.out]
                    simp [hLF.out]
                  rw [e] at hWc'
                  exact ⟨κ', _, _, φ', β', hWc', fun j hj => by
                    rw [ho' j (by omega)]
                    exact HOUT.out j hj⟩
                have hbel := crash_below HBW.out hFh HGF.out hWl
                have HREL := hide2 hrel
                have HBEL := hide2 hbel
                have HAP := hide2 hap
                have cN7A : (w7.alloc (.cells #[.string (ks p.1), .int .i64 (k : Int)] 101)).cell? ⟨g, k * 2, none⟩ = some (.string (ks p.1)) := (World.cell?_of_block (w := w7) (Below.heap_alloc w7 _ g (by exact World.block_lt_of_cell? w7 _ cN7))).trans cN7
                clear hrel hbel hap hown8 hgrow8 hat8 hN8 hWh hFh hz8 HNW HNR HOL HNK
                go_region_law (refine step_append_eq (by rfl) _ _ _ (by rfl) (.slice aO2 k cO2) (.slice (some ⟨w7.heap.size, 0, none⟩) 1 1) (.slice (some ⟨g8, 0, none⟩) (k + 1) cap8) w8 (by rfl) (by rfl) HAP.out ?_)
                all_goals
                  go_wp2
                  go_roundw
                  case rel => exact ⟨k + 1, by omega, by go_num, HREL.out, HBEL.out⟩
                  case measure => simp [intOf]; omega
          · obtain rfl : k = D.length := by omega
            rw [List.take_length] at hWc
            obtain ⟨q0, q1, q2, q3, q4, q5, q6⟩ := hWc.rk.cells
            have f3 := hWc.rk.free 3
            obtain ⟨aO2, cO2, rfl⟩ := hWc.rO.form
            have HWC := hide2 hWc
            have HB3 := hide2 hB
            have HOUT := hide2 hout
            clear hWc hB hout
            go_wp2
            go_ret
            refine ⟨o, rfl, by omega, ⟨κ2, ?_, HOUT.out⟩, ?_⟩
            · have := HWC.out.fin
              unfold Land.crashed
              rw [← HD.out]
              exact this
            · exact (BR.out.trans (HB3.out.mono (by omega))).setCell (by show w.heap.size ≤ o; omega) _
end
end Go.Proofs.Ytmggmnbialacbaa

/-
  Both disks beside one another: the program's, and the document's.
-/
set_option linter.unusedVariables false
set_option linter.unusedSimpArgs false
namespace Go.Proofs.Ytmggmnbialacbaa
open Go.RowKit Go.Maps

/-- The program's disk has P (the power goes at c; o: it is gone), the document's has Q; E: blocks that are neither's. -/
structure Jg (w : World) (E : Nat → Prop) (d r : Nat) (P : PD) (c : Int) (o : Bool) (Q : PD) (c' : Int) (o' : Bool) : Prop where
  it : ∃ K κ ca, Land.DR w K d P ca (decide (0 ≤ c)) o ∧ RD w r κ Q c' o' ∧ (0 ≤ c → ca = c) ∧ (∀ j, (K j ∨ j = d) → j < w.heap.size ∧ κ j = .out ∧ ¬ E j) ∧ (∀ j, E j → κ j = .out ∧ j < w.heap.size)
  pi : P.inv
  qi : Q.inv

theorem RD.frs {w : World} {r : Nat} {κ : Nat → Ro} {P : PD} {cut : Int} {off : Bool} (h : RD w r κ P cut off) : ∀ g, κ g ≠ .out → g < w.heap.size := by
  obtain ⟨_, _, _, _, _, _, h⟩ := h
  exact h.frs

section
variable {w w' : World} {E : Nat → Prop} {d r : Nat} {P Q : PD} {c c' : Int} {o o' : Bool}

theorem Jg.prog {f : FuncId} {args : Array Value} {A : Value → World → Prop} {P' : PD} {c1 : Int} {o1 : Bool} (h : Jg w E d r P c o Q c' o') (hP' : P'.inv)
    (hc : ∀ K ca, Land.DR w K d P ca (decide (0 ≤ c)) o → (0 ≤ c → ca = c) → (∀ j, E j → ¬ K j ∧ j ≠ d) → Calls Try.prog f args w fun e w' => ∃ v, e = .returned v ∧ A v w' ∧ (∃ ca1, (0 ≤ c1 → ca1 = c1) ∧ Land.DR w' (Land.more K w w') d P' ca1 (decide (0 ≤ c1)) o1) ∧ Fr (Land.KD K d) w w') :
    Calls Try.prog f args w fun e w' => ∃ v, e = .returned v ∧ A v w' ∧ Jg w' E d r P' c1 o1 Q c' o' ∧ Fr (fun j => ¬ E j) w w' := by
  obtain ⟨⟨K, κ, ca, h1, h2, h3, h4, h5⟩, hp, hq⟩ := h
  have hE : ∀ j, E j → ¬ K j ∧ j ≠ d := fun j e => ⟨fun k => (h4 j (.inl k)).2.2 e, fun k => (h4 j (.inr k)).2.2 e⟩
  refine (hc K ca h1 h3 hE).mono ?_
  rintro e w' ⟨v, rfl, hA, ⟨ca1, hca, hD⟩, F⟩
  have hR : RD w' r κ Q c' o' := h2.keep ⟨F.size, fun j hj hn => F.block j hj fun q => by
    rcases q with q | q
    · exact hn (h4 j (.inr q)).2.1
    · exact hn (h4 j (.inl q)).2.1⟩
  have hz := F.size
  refine ⟨v, rfl, hA, ⟨⟨Land.more K w w', κ, ca1, hD, hR, hca, fun j hj => ?_, fun j e => ⟨(h5 j e).1, by have := (h5 j e).2; omega⟩⟩, hP', hq⟩, F.mono fun j _ q e => ?_⟩
  · rcases hj with (hj | ⟨hj, hj2⟩) | hj
    · have := h4 j (.inl hj)
      exact ⟨by omega, this.2⟩
    · refine ⟨hj2, ?_, fun e => by have := (h5 j e).2; omega⟩
      by_cases q : κ j = .out
      · exact q
      · have := h2.frs j q
        omega
    · have := h4 j (.inr hj)
      exact ⟨by omega, this.2⟩
  · rcases q with q | q
    · exact (hE j e).2 q
    · exact (hE j e).1 q

theorem Jg.ref {f : FuncId} {args : Array Value} {A : Value → World → Prop} {Q' : PD} {c1 : Int} {o1 : Bool} (h : Jg w E d r P c o Q c' o') (hQ' : Q'.inv)
    (hc : ∀ κ, RD w r κ Q c' o' → (∀ j, E j → κ j = .out) → Calls Try.prog f args w fun e w' => ∃ v, e = .returned v ∧ A v w' ∧ Rres w w' r κ Q' c1 o1) :
    Calls Try.prog f args w fun e w' => ∃ v, e = .returned v ∧ A v w' ∧ Jg w' E d r P c o Q' c1 o1 ∧ Fr (fun j => ¬ E j) w w' := by
  obtain ⟨⟨K, κ, ca, h1, h2, h3, h4, h5⟩, hp, hq⟩ := h
  refine (hc κ h2 fun j e => (h5 j e).1).mono ?_
  rintro e w' ⟨v, rfl, hA, κ', hR, ho, F⟩
  have hz := F.size
  have hD : Land.DR w' K d P ca (decide (0 ≤ c)) o := h1.keep ⟨fun j hj q => F.block j hj fun e => e (h4 j (q.elim .inr .inl)).2.1⟩
  refine ⟨v, rfl, hA, ⟨⟨K, κ', ca, hD, hR, h3, fun j hj => ?_, fun j e => ?_⟩, hp, hQ'⟩, F.mono fun j _ q e => q (h5 j e).1⟩
  · obtain ⟨q1, q2, q3⟩ := h4 j hj
    exact ⟨by omega, by rw [ho j q1]; exact q2, q3⟩
  · obtain ⟨q1, q2⟩ := h5 j e
    exact ⟨by rw [ho j q2]; exact q1, by omega⟩

/-- What is done elsewhere. -/
theorem Jg.keep (h : Jg w E d r P c o Q c' o') {E' : Nat → Prop} (F : Fr E w w') (hE : ∀ j, E' j → E j ∨ w.heap.size ≤ j ∧ j < w'.heap.size) : Jg w' E' d r P c o Q c' o' := by
  obtain ⟨⟨K, κ, ca, h1, h2, h3, h4, h5⟩, hp, hq⟩ := h
  have hz := F.size
  have hD : Land.DR w' K d P ca (decide (0 ≤ c)) o := h1.keep ⟨fun j hj q => F.block j hj fun e => (h4 j (q.elim .inr .inl)).2.2 e⟩
  have hR : RD w' r κ Q c' o' := h2.keep ⟨F.size, fun j hj hn => F.block j hj fun e => hn (h5 j e).1⟩
  refine ⟨⟨K, κ, ca, hD, hR, h3, fun j hj => ?_, fun j e => ?_⟩, hp, hq⟩
  · obtain ⟨q1, q2, q3⟩ := h4 j hj
    exact ⟨by omega, q2, fun e => by
      rcases hE j e with e | e
      · exact q3 e
      · omega⟩
  · rcases hE j e with e | e
    · exact ⟨(h5 j e).1, by have := (h5 j e).2; omega⟩
    · refine ⟨?_, e.2⟩
      by_cases q : κ j = .out
      · exact q
      · have := h2.frs j q
        omega

/-- The program's operations, with power or without. -/
theorem prog_any {K : Nat → Prop} {ca : Int} {f : FuncId} {args : Array Value} {F : Int × PD} (h : Land.DR w K d P ca (decide (0 ≤ c)) o) (hca : 0 ≤ c → ca = c)
    (on : On P.n ca (decide (0 ≤ c)) o → ∀ L : Nat → Prop, Land.DR w L d P ca (decide (0 ≤ c)) o → (∀ j, j < w.heap.size → L j → K j) → (∀ j, w.heap.size ≤ j → L j) → Calls Try.prog f args w fun e w' => e = .returned (.int .i64 F.1) ∧ Land.DR w' L d F.2 ca (decide (0 ≤ c)) o ∧ Fr (Land.KD L d) w w')
    (off : Off P.n ca (decide (0 ≤ c)) o → ∀ now syn since, Dk w d now syn since P.n ca (decide (0 ≤ c)) o → Calls Try.prog f args w fun e w' => e = .returned (.int .i64 24) ∧ Dk w' d now syn since P.n ca (decide (0 ≤ c)) true ∧ Fr (fun j => j = d) w w') :
    Calls Try.prog f args w fun e w' => ∃ v, e = .returned v ∧ v = .int .i64 (if offed P.n c o = true then 24 else F.1) ∧ (∃ ca1, (0 ≤ c → ca1 = c) ∧ Land.DR w' (Land.more K w w') d (if offed P.n c o = true then P else F.2) ca1 (decide (0 ≤ c)) (offed P.n c o)) ∧ Fr (Land.KD K d) w w' := by
  cases ho : offed P.n c o with
  | false =>
    simp only [offed, Bool.or_eq_false_iff, Bool.and_eq_false_iff, decide_eq_false_iff_not] at ho
    obtain ⟨rfl, ho⟩ := ho
    have hon : On P.n ca (decide (0 ≤ c)) false := by
      refine ⟨rfl, ?_⟩
      by_cases h0 : 0 ≤ c
      · right
        rw [hca h0]
        omega
      · left
        simpa using h0
    refine (Land.grows (K := K) fun L hKL hLK hL => on hon L (h.mono fun j hj k => hKL j hj k) hLK hL).mono ?_
    rintro e w' ⟨rfl, hD, hF⟩
    exact ⟨_, rfl, rfl, ⟨ca, hca, hD⟩, hF⟩
  | true =>
    have hoff : Off P.n ca (decide (0 ≤ c)) o := by
      simp only [offed, Bool.or_eq_true, Bool.and_eq_true, decide_eq_true_eq] at ho
      rcases ho with ho | ⟨h0, h1⟩
      · exact .inl ho
      · exact .inr ⟨by simpa using h0, by rw [hca h0]; exact h1⟩
    refine (Land.dr_power h (c := ca) (k := decide (0 ≤ c)) (g := true) (off hoff)).mono ?_
    rintro e w' ⟨rfl, hD, hF⟩
    exact ⟨_, rfl, rfl, ⟨ca, hca, hD.mono fun j _ k => .inl k⟩, hF⟩
end
end Go.Proofs.Ytmggmnbialacbaa

/-
  Both disks beside one another: each operation of each.
-/
set_option linter.unusedVariables false
set_option linter.unusedSimpArgs false
namespace Go.Proofs.Ytmggmnbialacbaa
open Go.RowKit Go.Maps

/-- What a call answers, and leaves: with power, or without. -/
def ans (n : Int) (c : Int) (o : Bool) (F : Int × PD) : Int := if offed n c o = true then 24 else F.1
def lef (P : PD) (c : Int) (o : Bool) (F : Int × PD) : PD := if offed P.n c o = true then P else F.2
theorem lef_inv {P : PD} {c : Int} {o : Bool} {F : Int × PD} (hp : P.inv) (hF : F.2.inv) : (lef P c o F).inv := by
  unfold lef
  split
  · exact hp
  · exact hF

section
variable {w w' : World} {E : Nat → Prop} {d r : Nat} {P Q : PD} {c c' : Int} {o o' : Bool}

theorem jp_sync (h : Jg w E d r P c o Q c' o') (s : ByteArray) (hs : s.size ≤ maxLen) :
    Calls Try.prog 19 #[.pointer (some ⟨d, 0, none⟩), .string s] w fun e w' => ∃ v, e = .returned v ∧ v = .int .i64 (ans P.n c o (P.sync s)) ∧ Jg w' E d r (lef P c o (P.sync s)) c (offed P.n c o) Q c' o' ∧ Fr (fun j => ¬ E j) w w' :=
  h.prog (A := fun v _ => v = .int .i64 (ans P.n c o (P.sync s))) (lef_inv h.pi (inv_sync h.pi s)) fun K ca hD hca hE => prog_any hD hca (fun hon L hL _ hK => Land.dr_sync hL hon hK s hs) (fun hoff now syn since hk => sync_off hk hoff s)
theorem jp_delete (h : Jg w E d r P c o Q c' o') (s : ByteArray) (hs : s.size ≤ maxLen) :
    Calls Try.prog 17 #[.pointer (some ⟨d, 0, none⟩), .string s] w fun e w' => ∃ v, e = .returned v ∧ v = .int .i64 (ans P.n c o (P.del s)) ∧ Jg w' E d r (lef P c o (P.del s)) c (offed P.n c o) Q c' o' ∧ Fr (fun j => ¬ E j) w w' :=
  h.prog (A := fun v _ => v = .int .i64 (ans P.n c o (P.del s))) (lef_inv h.pi (inv_del h.pi s)) fun K ca hD hca hE => prog_any hD hca (fun hon L hL _ hK => Land.dr_delete hL hon hK s hs) (fun hoff now syn since hk => delete_off hk hoff s)
theorem jp_rename (h : Jg w E d r P c o Q c' o') (s t : ByteArray) (hs : s.size ≤ maxLen) (ht : t.size ≤ maxLen) :
    Calls Try.prog 32 #[.pointer (some ⟨d, 0, none⟩), .string s, .string t] w fun e w' => ∃ v, e = .returned v ∧ v = .int .i64 (ans P.n c o (P.ren s t)) ∧ Jg w' E d r (lef P c o (P.ren s t)) c (offed P.n c o) Q c' o' ∧ Fr (fun j => ¬ E j) w w' :=
  h.prog (A := fun v _ => v = .int .i64 (ans P.n c o (P.ren s t))) (lef_inv h.pi (inv_ren h.pi s t)) fun K ca hD hca hE => prog_any hD hca (fun hon L hL _ hK => Land.dr_rename hL hon hK s t hs ht) (fun hoff now syn since hk => rename_off hk hoff s t)
theorem jp_syncDir (h : Jg w E d r P c o Q c' o') :
    Calls Try.prog 20 #[.pointer (some ⟨d, 0, none⟩)] w fun e w' => ∃ v, e = .returned v ∧ v = .int .i64 (ans P.n c o P.syncDir) ∧ Jg w' E d r (lef P c o P.syncDir) c (offed P.n c o) Q c' o' ∧ Fr (fun j => ¬ E j) w w' :=
  h.prog (A := fun v _ => v = .int .i64 (ans P.n c o P.syncDir)) (lef_inv h.pi (inv_syncDir h.pi)) fun K ca hD hca hE => prog_any hD hca (fun hon L hL _ hK => Land.dr_syncDir hL hon hK) (fun hoff now syn since hk => syncDir_off hk hoff)
theorem jp_append (h : Jg w E d r P c o Q c' o') (s : ByteArray) (hs : s.size ≤ maxLen) (ao : Option Addr) (len cap : Nat) (xs : List Int) (hx : Sl w ao len cap xs) (hxa : 0 < len → ∀ b off, ao = some ⟨b, off, none⟩ → E b) :
    Calls Try.prog 18 #[.pointer (some ⟨d, 0, none⟩), .string s, .slice ao len cap] w fun e w' => ∃ v, e = .returned v ∧ v = .int .i64 (ans P.n c o (P.app s xs)) ∧ Jg w' E d r (lef P c o (P.app s xs)) c (offed P.n c o) Q c' o' ∧ Fr (fun j => ¬ E j) w w' := by
  obtain ⟨⟨K0, κ0, ca0, g1, g2, g3, g4, g5⟩, hp, hq⟩ := id h
  exact h.prog (A := fun v _ => v = .int .i64 (ans P.n c o (P.app s xs))) (lef_inv h.pi (inv_app h.pi s hx.2.2.2.1)) fun K ca hD hca hE => prog_any hD hca (fun hon L hL hLK hK => Land.dr_append hL hon hK s hs ao len cap xs hx fun hl b off e => by
    have hb := hxa hl b off e
    refine ⟨fun k => (hE b hb).1 (hLK b (g5 b hb).2 k), (hE b hb).2⟩) (fun hoff now syn since hk => append_off hk hoff s _)
theorem jp_cutAt (h : Jg w E d r P c o Q c' o') (n : Int) :
    Calls Try.prog 27 #[.pointer (some ⟨d, 0, none⟩), .int .i64 n] w fun e w' => ∃ v, e = .returned v ∧ v = .tuple #[] ∧ Jg w' E d r P n false Q c' o' ∧ Fr (fun j => ¬ E j) w w' := by
  refine h.prog (A := fun v _ => v = .tuple #[]) h.pi fun K ca hD hca hE => (Land.dr_power hD (v := .tuple #[]) (c := n) (k := decide (0 ≤ n)) (g := false) fun now syn since hk => cutAt_any hk n).mono ?_
  rintro e w' ⟨rfl, hD, hF⟩
  exact ⟨_, rfl, rfl, ⟨n, fun _ => rfl, hD.mono fun j _ k => .inl k⟩, hF⟩
theorem jp_poke (h : Jg w E d r P c o Q c' o') (s : ByteArray) (hs : s.size ≤ maxLen) (k b : Int) (hb : 0 ≤ b ∧ b ≤ 255) :
    Calls Try.prog 37 #[.pointer (some ⟨d, 0, none⟩), .string s, .int .i64 k, .int .u8 b] w fun e w' => ∃ v, e = .returned v ∧ v = .int .i64 (Land.ppoke P s k b).1 ∧ Jg w' E d r (Land.ppoke P s k b).2 c o Q c' o' ∧ Fr (fun j => ¬ E j) w w' := by
  refine h.prog (A := fun v _ => v = .int .i64 (Land.ppoke P s k b).1) (Land.inv_poke h.pi s k b hb) fun K ca hD hca hE => (Land.dr_poke hD h.pi s hs k b hb).mono ?_
  rintro e w' ⟨rfl, hD, hF⟩
  exact ⟨_, rfl, rfl, ⟨ca, hca, hD.mono fun j _ k => .inl k⟩, hF.mono fun j _ k => .inr k⟩
theorem jp_read (h : Jg w E d r P c o Q c' o') (s : ByteArray) (hs : s.size ≤ maxLen) :
    Calls Try.prog 22 #[.pointer (some ⟨d, 0, none⟩), .string s] w fun e w' => ∃ v, e = .returned v ∧ (∃ u, v = .tuple #[u, .int .i64 (if o then 24 else (Land.pread P s).1)] ∧ Own w' w.heap.size u (if o then [] else (Land.pread P s).2)) ∧ Below w.heap.size w w' := by
  obtain ⟨⟨K, κ, ca, h1, h2, h3, h4, h5⟩, hp, hq⟩ := h
  refine (Land.dr_read h1 hp s hs).mono ?_
  rintro e w' ⟨v, rfl, ho, hB⟩
  exact ⟨_, rfl, ⟨v, rfl, ho⟩, hB⟩

theorem jr_sync (h : Jg w E d r P c o Q c' o') (s : ByteArray) (hs : s.size ≤ maxLen) :
    Calls Try.prog 31 #[.pointer (some ⟨r, 0, none⟩), .string s] w fun e w' => ∃ v, e = .returned v ∧ v = .int .i64 (ans Q.n c' o' (Q.sync s)) ∧ Jg w' E d r P c o (lef Q c' o' (Q.sync s)) c' (offed Q.n c' o') ∧ Fr (fun j => ¬ E j) w w' :=
  h.ref (A := fun v _ => v = .int .i64 (ans Q.n c' o' (Q.sync s))) (lef_inv h.qi (inv_sync h.qi s)) fun κ hR hE => (ref_sync hR h.qi s hs).mono (by rintro e w' ⟨rfl, q⟩; exact ⟨_, rfl, rfl, q⟩)
theorem jr_delete (h : Jg w E d r P c o Q c' o') (s : ByteArray) (hs : s.size ≤ maxLen) :
    Calls Try.prog 34 #[.pointer (some ⟨r, 0, none⟩), .string s] w fun e w' => ∃ v, e = .returned v ∧ v = .int .i64 (ans Q.n c' o' (Q.del s)) ∧ Jg w' E d r P c o (lef Q c' o' (Q.del s)) c' (offed Q.n c' o') ∧ Fr (fun j => ¬ E j) w w' :=
  h.ref (A := fun v _ => v = .int .i64 (ans Q.n c' o' (Q.del s))) (lef_inv h.qi (inv_del h.qi s)) fun κ hR hE => (ref_delete hR h.qi s hs).mono (by rintro e w' ⟨rfl, q⟩; exact ⟨_, rfl, rfl, q⟩)
theorem jr_rename (h : Jg w E d r P c o Q c' o') (s t : ByteArray) (hs : s.size ≤ maxLen) (ht : t.size ≤ maxLen) :
    Calls Try.prog 33 #[.pointer (some ⟨r, 0, none⟩), .string s, .string t] w fun e w' => ∃ v, e = .returned v ∧ v = .int .i64 (ans Q.n c' o' (Q.ren s t)) ∧ Jg w' E d r P c o (lef Q c' o' (Q.ren s t)) c' (offed Q.n c' o') ∧ Fr (fun j => ¬ E j) w w' :=
  h.ref (A := fun v _ => v = .int .i64 (ans Q.n c' o' (Q.ren s t))) (lef_inv h.qi (inv_ren h.qi s t)) fun κ hR hE => (ref_rename hR h.qi s t hs ht).mono (by rintro e w' ⟨rfl, q⟩; exact ⟨_, rfl, rfl, q⟩)
theorem jr_syncDir (h : Jg w E d r P c o Q c' o') :
    Calls Try.prog 35 #[.pointer (some ⟨r, 0, none⟩)] w fun e w' => ∃ v, e = .returned v ∧ v = .int .i64 (ans Q.n c' o' Q.syncDir) ∧ Jg w' E d r P c o (lef Q c' o' Q.syncDir) c' (offed Q.n c' o') ∧ Fr (fun j => ¬ E j) w w' :=
  h.ref (A := fun v _ => v = .int .i64 (ans Q.n c' o' Q.syncDir)) (lef_inv h.qi (inv_syncDir h.qi)) fun κ hR hE => (ref_syncDir hR h.qi).mono (by rintro e w' ⟨rfl, q⟩; exact ⟨_, rfl, rfl, q⟩)
theorem jr_append (h : Jg w E d r P c o Q c' o') (s : ByteArray) (hs : s.size ≤ maxLen) (ao : Option Addr) (len cap : Nat) (xs : List Int) (hx : Sl w ao len cap xs) (hxa : 0 < len → ∀ b off, ao = some ⟨b, off, none⟩ → E b) :
    Calls Try.prog 29 #[.pointer (some ⟨r, 0, none⟩), .string s, .slice ao len cap] w fun e w' => ∃ v, e = .returned v ∧ v = .int .i64 (ans Q.n c' o' (Q.app s xs)) ∧ Jg w' E d r P c o (lef Q c' o' (Q.app s xs)) c' (offed Q.n c' o') ∧ Fr (fun j => ¬ E j) w w' :=
  h.ref (A := fun v _ => v = .int .i64 (ans Q.n c' o' (Q.app s xs))) (lef_inv h.qi (inv_app h.qi s hx.2.2.2.1)) fun κ hR hE => (ref_append hR h.qi s hs ao len cap xs hx fun hl b off e => hE b (hxa hl b off e)).mono (by rintro e w' ⟨rfl, q⟩; exact ⟨_, rfl, rfl, q⟩)
theorem jr_poke (h : Jg w E d r P c o Q c' o') (s : ByteArray) (hs : s.size ≤ maxLen) (k b : Int) (hb : 0 ≤ b ∧ b ≤ 255) :
    Calls Try.prog 38 #[.pointer (some ⟨r, 0, none⟩), .string s, .int .i64 k, .int .u8 b] w fun e w' => ∃ v, e = .returned v ∧ v = .int .i64 (Land.ppoke Q s k b).1 ∧ Jg w' E d r P c o (Land.ppoke Q s k b).2 c' o' ∧ Fr (fun j => ¬ E j) w w' :=
  h.ref (A := fun v _ => v = .int .i64 (Land.ppoke Q s k b).1) (Land.inv_poke h.qi s k b hb) fun κ hR hE => (ref_poke hR h.qi s hs k b).mono (by rintro e w' ⟨rfl, q⟩; exact ⟨_, rfl, rfl, q⟩)
theorem jr_cutAt (h : Jg w E d r P c o Q c' o') (n : Int) :
    Calls Try.prog 36 #[.pointer (some ⟨r, 0, none⟩), .int .i64 n] w fun e w' => ∃ v, e = .returned v ∧ v = .tuple #[] ∧ Jg w' E d r P c o Q n false ∧ Fr (fun j => ¬ E j) w w' := by
  refine h.ref (A := fun v _ => v = .tuple #[]) h.qi fun κ hR hE => ?_
  obtain ⟨vF, vO, vL, vN, φ, β, hW⟩ := hR
  refine (ref_cutAt hW.rk n).mono ?_
  rintro e w' ⟨rfl, hk, hF⟩
  exact ⟨_, rfl, rfl, κ, ⟨vF, vO, vL, vN, φ, β, hW.blk hF hk⟩, fun _ _ => rfl, hF.mono fun j _ e => by rw [e, hW.kr]; exact Ro.noConfusion⟩
theorem jr_read (h : Jg w E d r P c o Q c' o') (s : ByteArray) (hs : s.size ≤ maxLen) :
    Calls Try.prog 30 #[.pointer (some ⟨r, 0, none⟩), .string s] w fun e w' => ∃ v, e = .returned v ∧ (∃ ao len cap, v = .tuple #[.slice ao len cap, .int .i64 (if o' then 24 else (Land.pread Q s).1)] ∧ Sl w ao len cap (if o' then [] else (Land.pread Q s).2)) ∧ w' = w := by
  obtain ⟨⟨K, κ, ca, h1, h2, h3, h4, h5⟩, hp, hq⟩ := h
  refine (ref_read h2 hq s hs).mono ?_
  rintro e w' ⟨⟨ao, len, cap, rfl, hsl⟩, rfl⟩
  exact ⟨_, rfl, ⟨ao, len, cap, by cases o' <;> rfl, by cases o' <;> exact hsl⟩, rfl⟩
end
end Go.Proofs.Ytmggmnbialacbaa

/-
  Both disks beside one another: 'does', kind by kind.
-/
set_option linter.unusedVariables false
set_option linter.unusedSimpArgs false
namespace Go.Proofs.Ytmggmnbialacbaa
open Go.RowKit Go.Maps

/-- A call of a script, as it is handed on. -/
def OpR.val (q : OpR) : Value := .agg #[.int .i64 q.kind, .string q.name, .string q.to, .slice q.bo q.bl q.bc, .int .i64 q.n, .int .i64 q.k1, .int .i64 q.k2, .int .i64 q.k3]
/-- The law's world: where both disks are. -/
def Wx (w : World) (x d r : Nat) : Prop := w.heap[x]? = some (.cells #[.pointer (some ⟨d, 0, none⟩), .pointer (some ⟨r, 0, none⟩)] 30 (0, 0))
theorem Wx.lt {w : World} {x d r : Nat} (h : Wx w x d r) : x < w.heap.size := (Array.getElem?_eq_some_iff.1 h).1
theorem Wx.cells {w : World} {x d r : Nat} (h : Wx w x d r) : w.cell? ⟨x, 0, none⟩ = some (.pointer (some ⟨d, 0, none⟩)) ∧ w.cell? ⟨x, 1, none⟩ = some (.pointer (some ⟨r, 0, none⟩)) := by
  unfold Wx at h
  refine ⟨?_, ?_⟩ <;> (rw [Go.Joins.cell_of_block h]; rfl)
/-- The call's own copy of what it was handed. -/
def Bx (w : World) (y : Nat) (q : OpR) : Prop := w.heap[y]? = some (.cells #[.int .i64 q.kind, .string q.name, .string q.to, .slice q.bo q.bl q.bc, .int .i64 q.n, .int .i64 q.k1, .int .i64 q.k2, .int .i64 q.k3] 36 (0, 0))
theorem Bx.cells {w : World} {y : Nat} {q : OpR} (h : Bx w y q) : w.cell? ⟨y, 0, none⟩ = some (.int .i64 q.kind) ∧ w.cell? ⟨y, 1, none⟩ = some (.string q.name) ∧ w.cell? ⟨y, 2, none⟩ = some (.string q.to) ∧ w.cell? ⟨y, 3, none⟩ = some (.slice q.bo q.bl q.bc) ∧
    w.cell? ⟨y, 4, none⟩ = some (.int .i64 q.n) ∧ w.cell? ⟨y, 5, none⟩ = some (.int .i64 q.k1) ∧ w.cell? ⟨y, 6, none⟩ = some (.int .i64 q.k2) ∧ w.cell? ⟨y, 7, none⟩ = some (.int .i64 q.k3) := by
  unfold Bx at h
  refine ⟨?_, ?_, ?_, ?_, ?_, ?_, ?_, ?_⟩ <;> (rw [Go.Joins.cell_of_block h]; rfl)

section
variable {w w' : World} {E : Nat → Prop} {x d r : Nat} {P : PD} {c : Int} {o : Bool}

/-- All that stands when the call has its copy. -/
structure Dy (w : World) (E : Nat → Prop) (x d r : Nat) (P : PD) (c : Int) (o : Bool) (Q : PD) (c' : Int) (o' : Bool) (y : Nat) (q : OpR) : Prop where
  jg : Jg w E d r P c o Q c' o'
  wx : Wx w x d r
  bx : Bx w y q
  ex : E x
  ey : E y
theorem Dy.next {Q : PD} {c' : Int} {o' : Bool} {y : Nat} {q : OpR} {P1 Q1 : PD} {c1 c2 : Int} {o1 o2 : Bool} (h : Dy w E x d r P c o Q c' o' y q) (hj : Jg w' E d r P1 c1 o1 Q1 c2 o2) (F : Fr (fun j => ¬ E j) w w') : Dy w' E x d r P1 c1 o1 Q1 c2 o2 y q :=
  ⟨hj, (F.block x h.wx.lt fun e => e h.ex).trans h.wx, (F.block y (Array.getElem?_eq_some_iff.1 h.bx).1 fun e => e h.ey).trans h.bx, h.ex, h.ey⟩
theorem Dy.start (h : Jg w E d r P c o P c o) (hx : Wx w x d r) (hE : E x) (q : OpR) :
    Dy (w.alloc (.cells #[.int .i64 q.kind, .string q.name, .string q.to, .slice q.bo q.bl q.bc, .int .i64 q.n, .int .i64 q.k1, .int .i64 q.k2, .int .i64 q.k3] 36)) (fun j => E j ∨ j = w.heap.size) x d r P c o P c o w.heap.size q :=
  ⟨h.keep ((Fr.refl E w).alloc _) (fun j e => e.imp id fun e => ⟨by omega, by simp; omega⟩), (Below.heap_alloc _ _ x hx.lt).trans hx, heap_alloc_new _ _, .inl hE, .inr rfl⟩

end
end Go.Proofs.Ytmggmnbialacbaa

/-
  'does' of the kinds 2 to 5 and 7: one call on each disk. (Printed by gen_dj4.py.)
-/
set_option linter.unusedVariables false
set_option linter.unusedSimpArgs false
namespace Go.Proofs.Ytmggmnbialacbaa
open Go.RowKit Go.Maps

/-- What a call of 'does' leaves: both disks alike. -/
def Dres (w w' : World) (E : Nat → Prop) (x : Nat) : Prop := ∃ d r P c o, Jg w' E d r P c o P c o ∧ Wx w' x d r ∧ Fr (fun j => ¬ E j ∨ j = x) w w'
theorem Dy.six {w : World} {E : Nat → Prop} {x d r : Nat} {P : PD} {c : Int} {o : Bool} {Q : PD} {c' : Int} {o' : Bool} {y : Nat} {q : OpR} (h : Dy w E x d r P c o Q c' o' y q) : w.cell? ⟨x, 0, none⟩ = some (.pointer (some ⟨d, 0, none⟩)) ∧ w.cell? ⟨x, 1, none⟩ = some (.pointer (some ⟨r, 0, none⟩)) ∧ w.cell? ⟨y, 1, none⟩ = some (.string q.name) ∧ w.cell? ⟨y, 2, none⟩ = some (.string q.to) ∧ w.cell? ⟨y, 3, none⟩ = some (.slice q.bo q.bl q.bc) ∧ w.cell? ⟨y, 4, none⟩ = some (.int .i64 q.n) :=
  ⟨h.wx.cells.1, h.wx.cells.2, h.bx.cells.2.1, h.bx.cells.2.2.1, h.bx.cells.2.2.2.1, h.bx.cells.2.2.2.2.1⟩
theorem Dy.drew {w : World} {E : Nat → Prop} {x d r : Nat} {P : PD} {c : Int} {o : Bool} {Q : PD} {c' : Int} {o' : Bool} {y : Nat} {q : OpR} (h : Dy w E x d r P c o Q c' o' y q) : Dy w.drew E x d r P c o Q c' o' y q :=
  h.next (h.jg.keep ((Fr.refl E w).drewN 1) (fun j e => .inl e)) ((Fr.refl _ w).drewN 1)
theorem Jg.less {w : World} {E E' : Nat → Prop} {d r : Nat} {P Q : PD} {c c' : Int} {o o' : Bool} (h : Jg w E d r P c o Q c' o') (hE : ∀ j, E' j → E j) : Jg w E' d r P c o Q c' o' := h.keep (Fr.refl E w) (fun j e => .inl (hE j e))

section
variable {w : World} {E : Nat → Prop} {x d r : Nat} {P : PD} {c : Int} {o : Bool}

set_option maxRecDepth 100000 in
set_option maxHeartbeats 4000000 in
theorem jd_sync (h : Jg w E d r P c o P c o) (hx : Wx w x d r) (hE : E x) (q : OpR) (hk : pk q.kind = 2) (hlo : -9223372036854775808 ≤ q.kind) (hhi : q.kind ≤ 9223372036854775807) (hs : q.name.size ≤ maxLen) :
    Calls Try.prog 11 #[.pointer (some ⟨x, 0, none⟩), q.val] w fun e w' => e = .returned (.bool true) ∧ Dres w w' E x := by
  have D1 := Dy.start h hx hE q
  obtain ⟨b0, -⟩ := D1.bx.cells
  have hxl := hx.lt
  have HP := hide2 (pick_any q.kind (w.alloc (.cells #[.int .i64 q.kind, .string q.name, .string q.to, .slice q.bo q.bl q.bc, .int .i64 q.n, .int .i64 q.k1, .int .i64 q.k2, .int .i64 q.k3] 36)) hlo hhi)
  rw [hk] at HP
  have F1 : Fr (fun j => ¬ E j ∨ j = x) w (w.alloc (.cells #[.int .i64 q.kind, .string q.name, .string q.to, .slice q.bo q.bl q.bc, .int .i64 q.n, .int .i64 q.k1, .int .i64 q.k2, .int .i64 q.k3] 36)) := (Fr.refl _ w).alloc _
  obtain ⟨s1, s2, s3, s4, s5, s6⟩ := D1.six
  have hel : ∀ j, E j → j < w.heap.size := fun j e => by
    obtain ⟨⟨K, κ, ca, g1, g2, g3, g4, g5⟩, -, -⟩ := h
    exact (g5 j e).2
  unfold OpR.val
  generalize hW : w.alloc (.cells #[.int .i64 q.kind, .string q.name, .string q.to, .slice q.bo q.bl q.bc, .int .i64 q.n, .int .i64 q.k1, .int .i64 q.k2, .int .i64 q.k3] 36) = W at *
  go_enter Try.func11, Try.ntmps11
  go_wp2_with fail
  try rw [hW]
  refine HP.out.mono ?_
  rintro e w1 ⟨rfl, rfl⟩
  clear HP
  have HD1 := hide2 D1.drew
  have HF1 := hide2 F1
  have HEL := hide2 hel
  clear D1 F1 hel hW h hx
  go_wp2
  refine wp_region_noPanic ?_
  refine wp_region_held_drew (S := (fun u : World => u.cell? ⟨x, 0, none⟩ = some (.pointer (some ⟨d, 0, none⟩)) ∧ u.cell? ⟨x, 1, none⟩ = some (.pointer (some ⟨r, 0, none⟩)) ∧ u.cell? ⟨w.heap.size, 1, none⟩ = some (.string q.name) ∧ u.cell? ⟨w.heap.size, 2, none⟩ = some (.string q.to) ∧ u.cell? ⟨w.heap.size, 3, none⟩ = some (.slice q.bo q.bl q.bc) ∧ u.cell? ⟨w.heap.size, 4, none⟩ = some (.int .i64 q.n))) (by kernel_rfl) (⟨s1, s2, s3, s4, s5, s6⟩) (fun hHeld => ?_)
  refine wpAnyH_take (i := 0) (oi := { dst := some 95, op := _, type := _, pos := _, after := _, guard := _ }) (v := ?_) rfl (by kernel_rfl) (by kernel_rfl) (by kernel_rfl) (fun _ _ _ h => h) (Or.inl ⟨by rfl, ?_⟩) (by assumption) ?_
  rotate_left 1
  · intro u hSw; obtain ⟨s1, s2, s3, s4, s5, s6⟩ := hSw; go_simp; try with_reducible rfl
  try simp only [Act.put, List.setIfInBounds_toArray, List.set_cons_zero, List.set_cons_succ]
  refine wpAnyH_take (i := 1) (oi := { dst := some 96, op := _, type := _, pos := _, after := _, guard := _ }) (v := ?_) rfl (by kernel_rfl) (by kernel_rfl) (by kernel_rfl) (fun _ _ _ h => h) (Or.inl ⟨by rfl, ?_⟩) (by assumption) ?_
  rotate_left 1
  · intro u hSw; obtain ⟨s1, s2, s3, s4, s5, s6⟩ := hSw; go_simp; try with_reducible rfl
  try simp only [Act.put, List.setIfInBounds_toArray, List.set_cons_zero, List.set_cons_succ]
  refine wpAnyH_take (i := 2) (oi := { dst := some 97, op := _, type := _, pos := _, after := _, guard := _ }) (v := ?_) rfl (by kernel_rfl) (by kernel_rfl) (by kernel_rfl) (fun _ _ _ h => h) (Or.inl ⟨by rfl, ?_⟩) (by assumption) ?_
  rotate_left 1
  · intro u hSw; obtain ⟨s1, s2, s3, s4, s5, s6⟩ := hSw; go_simp; try with_reducible rfl
  try simp only [Act.put, List.setIfInBounds_toArray, List.set_cons_zero, List.set_cons_succ]
  refine wpAnyH_take (i := 3) (oi := { dst := some 98, op := _, type := _, pos := _, after := _, guard := _ }) (v := ?_) rfl (by kernel_rfl) (by kernel_rfl) (by kernel_rfl) (fun _ _ _ h => h) (Or.inl ⟨by rfl, ?_⟩) (by assumption) ?_
  rotate_left 1
  · intro u hSw; obtain ⟨s1, s2, s3, s4, s5, s6⟩ := hSw; go_simp; try with_reducible rfl
  try simp only [Act.put, List.setIfInBounds_toArray, List.set_cons_zero, List.set_cons_succ]
  refine wpAnyH_take (i := 4) (oi := { dst := some 99, op := _, type := _, pos := _, after := _, guard := _ }) (v := ?_) rfl (by kernel_rfl) (by kernel_rfl) (by kernel_rfl) (fun _ _ _ h => h) (Or.inl ⟨by rfl, ?_⟩) (by assumption) ?_
  rotate_left 1
  · intro u hSw; obtain ⟨s1, s2, s3, s4, s5, s6⟩ := hSw; go_simp; try with_reducible rfl
  try simp only [Act.put, List.setIfInBounds_toArray, List.set_cons_zero, List.set_cons_succ]
  refine wpAnyH_take (i := 5) (oi := { dst := some 100, op := _, type := _, pos := _, after := _, guard := _ }) (v := ?_) rfl (by kernel_rfl) (by kernel_rfl) (by kernel_rfl) (fun _ _ _ h => h) (Or.inl ⟨by rfl, ?_⟩) (by assumption) ?_
  rotate_left 1
  · intro u hSw; obtain ⟨s1, s2, s3, s4, s5, s6⟩ := hSw; go_simp; try with_reducible rfl
  try simp only [Act.put, List.setIfInBounds_toArray, List.set_cons_zero, List.set_cons_succ]
  refine wpAnyH_take (i := 7) (oi := { dst := some 102, op := _, type := _, pos := _, after := _, guard := _ }) (v := ?_) rfl (by kernel_rfl) (by kernel_rfl) (by kernel_rfl) (fun _ _ _ h => h) (Or.inl ⟨by rfl, ?_⟩) (by assumption) ?_
  rotate_left 1
  · intro u hSw; obtain ⟨s1, s2, s3, s4, s5, s6⟩ := hSw; go_simp; try with_reducible rfl
  try simp only [Act.put, List.setIfInBounds_toArray, List.set_cons_zero, List.set_cons_succ]
  refine wpAnyH_take (i := 8) (oi := { dst := some 103, op := _, type := _, pos := _, after := _, guard := _ }) (v := ?_) rfl (by kernel_rfl) (by kernel_rfl) (by kernel_rfl) (fun _ _ _ h => h) (Or.inl ⟨by rfl, ?_⟩) (by assumption) ?_
  rotate_left 1
  · intro u hSw; obtain ⟨s1, s2, s3, s4, s5, s6⟩ := hSw; go_simp; try with_reducible rfl
  try simp only [Act.put, List.setIfInBounds_toArray, List.set_cons_zero, List.set_cons_succ]
  refine wpAnyH_take (i := 9) (oi := { dst := some 104, op := _, type := _, pos := _, after := _, guard := _ }) (v := ?_) rfl (by kernel_rfl) (by kernel_rfl) (by kernel_rfl) (fun _ _ _ h => h) (Or.inl ⟨by rfl, ?_⟩) (by assumption) ?_
  rotate_left 1
  · intro u hSw; obtain ⟨s1, s2, s3, s4, s5, s6⟩ := hSw; go_simp; try with_reducible rfl
  try simp only [Act.put, List.setIfInBounds_toArray, List.set_cons_zero, List.set_cons_succ]
  refine wpAnyH_take (i := 10) (oi := { dst := some 105, op := _, type := _, pos := _, after := _, guard := _ }) (v := ?_) rfl (by kernel_rfl) (by kernel_rfl) (by kernel_rfl) (fun _ _ _ h => h) (Or.inl ⟨by rfl, ?_⟩) (by assumption) ?_
  rotate_left 1
  · intro u hSw; obtain ⟨s1, s2, s3, s4, s5, s6⟩ := hSw; go_simp; try with_reducible rfl
  try simp only [Act.put, List.setIfInBounds_toArray, List.set_cons_zero, List.set_cons_succ]
  refine wpAnyH_take (i := 11) (oi := { dst := some 106, op := _, type := _, pos := _, after := _, guard := _ }) (v := ?_) rfl (by kernel_rfl) (by kernel_rfl) (by kernel_rfl) (fun _ _ _ h => h) (Or.inl ⟨by rfl, ?_⟩) (by assumption) ?_
  rotate_left 1
  · intro u hSw; obtain ⟨s1, s2, s3, s4, s5, s6⟩ := hSw; go_simp; try with_reducible rfl
  try simp only [Act.put, List.setIfInBounds_toArray, List.set_cons_zero, List.set_cons_succ]
  refine wpAnyH_take (i := 12) (oi := { dst := some 107, op := _, type := _, pos := _, after := _, guard := _ }) (v := ?_) rfl (by kernel_rfl) (by kernel_rfl) (by kernel_rfl) (fun _ _ _ h => h) (Or.inl ⟨by rfl, ?_⟩) (by assumption) ?_
  rotate_left 1
  · intro u hSw; obtain ⟨s1, s2, s3, s4, s5, s6⟩ := hSw; go_simp; try with_reducible rfl
  try simp only [Act.put, List.setIfInBounds_toArray, List.set_cons_zero, List.set_cons_succ]
  refine wpAnyH_ready (rs := [6]) (by kernel_rfl) (by simp) ?_
  refine AllReadyH.cons (o := { dst := some 101, op := _, type := _, pos := _, after := _, guard := _ }) rfl (fun K hK => ?_) AllReadyH.nil
  go_simp
  refine (jp_sync HD1.out.jg q.name hs).mono ?_
  rintro e w2 ⟨v, rfl, rfl, hj2, F2⟩
  have HD2 := hide2 (HD1.out.next hj2 F2)
  have HF2 := hide2 F2
  clear hj2 F2
  go_wp2_with fail
  refine hK.out _ _ (HD2.out.six) (fun hHeld => ?_)
  clear hK K
  try simp only [Act.put, List.setIfInBounds_toArray, List.set_cons_zero, List.set_cons_succ]
  refine wpAnyH_ready (rs := [13]) (by kernel_rfl) (by simp) ?_
  refine AllReadyH.cons (o := { dst := some 108, op := _, type := _, pos := _, after := _, guard := _ }) rfl (fun K hK => ?_) AllReadyH.nil
  go_simp
  refine (jr_sync HD2.out.jg q.name hs).mono ?_
  rintro e w3 ⟨v, rfl, rfl, hj3, F3⟩
  have HD3 := hide2 (HD2.out.next hj3 F3)
  have HF3 := hide2 F3
  clear hj3 F3
  go_wp2_with fail
  refine hK.out _ _ (HD3.out.six) (fun hHeld => ?_)
  clear hK K
  try simp only [Act.put, List.setIfInBounds_toArray, List.set_cons_zero, List.set_cons_succ]
  refine wpAnyH_take (i := 14) (oi := { dst := some 109, op := _, type := _, pos := _, after := _, guard := _ }) (v := ?_) rfl (by kernel_rfl) (by kernel_rfl) (by kernel_rfl) (fun _ _ _ h => h) (Or.inl ⟨by rfl, ?_⟩) (by assumption) ?_
  rotate_left 1
  · intro u hSw; obtain ⟨s1, s2, s3, s4, s5, s6⟩ := hSw; go_simp; try with_reducible rfl
  try simp only [Act.put, List.setIfInBounds_toArray, List.set_cons_zero, List.set_cons_succ]
  refine wpAnyH_take (i := 15) (oi := { dst := some 4, op := _, type := _, pos := _, after := _, guard := _ }) (v := ?_) rfl (by kernel_rfl) (by kernel_rfl) (by kernel_rfl) (fun _ _ _ h => h) (Or.inl ⟨by rfl, ?_⟩) (by assumption) ?_
  rotate_left 1
  · intro u hSw; obtain ⟨s1, s2, s3, s4, s5, s6⟩ := hSw; go_simp; try with_reducible rfl
  try simp only [Act.put, List.setIfInBounds_toArray, List.set_cons_zero, List.set_cons_succ]
  refine wpAnyH_done (by kernel_rfl) ?_ _
  refine NoPanic.normal ?_
  go_wp2
  go_ret
  refine ⟨rfl, d, r, _, _, _, HD3.out.jg.less (fun j e => .inl e), HD3.out.wx, ?_⟩
  refine (HF1.out.drewN 1).trans ((HF2.out.trans HF3.out (fun j hj => .inl hj)).mono (G := fun j => ¬ E j ∨ j = x) (fun j _ hj => .inl (fun e => hj (.inl e)))) (fun j hj => .inl hj)

set_option maxRecDepth 100000 in
set_option maxHeartbeats 4000000 in
theorem jd_rename (h : Jg w E d r P c o P c o) (hx : Wx w x d r) (hE : E x) (q : OpR) (hk : pk q.kind = 3) (hlo : -9223372036854775808 ≤ q.kind) (hhi : q.kind ≤ 9223372036854775807) (hs : q.name.size ≤ maxLen) (ht : q.to.size ≤ maxLen) :
    Calls Try.prog 11 #[.pointer (some ⟨x, 0, none⟩), q.val] w fun e w' => e = .returned (.bool true) ∧ Dres w w' E x := by
  have D1 := Dy.start h hx hE q
  obtain ⟨b0, -⟩ := D1.bx.cells
  have hxl := hx.lt
  have HP := hide2 (pick_any q.kind (w.alloc (.cells #[.int .i64 q.kind, .string q.name, .string q.to, .slice q.bo q.bl q.bc, .int .i64 q.n, .int .i64 q.k1, .int .i64 q.k2, .int .i64 q.k3] 36)) hlo hhi)
  rw [hk] at HP
  have F1 : Fr (fun j => ¬ E j ∨ j = x) w (w.alloc (.cells #[.int .i64 q.kind, .string q.name, .string q.to, .slice q.bo q.bl q.bc, .int .i64 q.n, .int .i64 q.k1, .int .i64 q.k2, .int .i64 q.k3] 36)) := (Fr.refl _ w).alloc _
  obtain ⟨s1, s2, s3, s4, s5, s6⟩ := D1.six
  have hel : ∀ j, E j → j < w.heap.size := fun j e => by
    obtain ⟨⟨K, κ, ca, g1, g2, g3, g4, g5⟩, -, -⟩ := h
    exact (g5 j e).2
  unfold OpR.val
  generalize hW : w.alloc (.cells #[.int .i64 q.kind, .string q.name, .string q.to, .slice q.bo q.bl q.bc, .int .i64 q.n, .int .i64 q.k1, .int .i64 q.k2, .int .i64 q.k3] 36) = W at *
  go_enter Try.func11, Try.ntmps11
  go_wp2_with fail
  try rw [hW]
  refine HP.out.mono ?_
  rintro e w1 ⟨rfl, rfl⟩
  clear HP
  have HD1 := hide2 D1.drew
  have HF1 := hide2 F1
  have HEL := hide2 hel
  clear D1 F1 hel hW h hx
  go_wp2
  refine wp_region_noPanic ?_
  refine wp_region_held_drew (S := (fun u : World => u.cell? ⟨x, 0, none⟩ = some (.pointer (some ⟨d, 0, none⟩)) ∧ u.cell? ⟨x, 1, none⟩ = some (.pointer (some ⟨r, 0, none⟩)) ∧ u.cell? ⟨w.heap.size, 1, none⟩ = some (.string q.name) ∧ u.cell? ⟨w.heap.size, 2, none⟩ = some (.string q.to) ∧ u.cell? ⟨w.heap.size, 3, none⟩ = some (.slice q.bo q.bl q.bc) ∧ u.cell? ⟨w.heap.size, 4, none⟩ = some (.int .i64 q.n))) (by kernel_rfl) (⟨s1, s2, s3, s4, s5, s6⟩) (fun hHeld => ?_)
  refine wpAnyH_take (i := 0) (oi := { dst := some 112, op := _, type := _, pos := _, after := _, guard := _ }) (v := ?_) rfl (by kernel_rfl) (by kernel_rfl) (by kernel_rfl) (fun _ _ _ h => h) (Or.inl ⟨by rfl, ?_⟩) (by assumption) ?_
  rotate_left 1
  · intro u hSw; obtain ⟨s1, s2, s3, s4, s5, s6⟩ := hSw; go_simp; try with_reducible rfl
  try simp only [Act.put, List.setIfInBounds_toArray, List.set_cons_zero, List.set_cons_succ]
  refine wpAnyH_take (i := 1) (oi := { dst := some 113, op := _, type := _, pos := _, after := _, guard := _ }) (v := ?_) rfl (by kernel_rfl) (by kernel_rfl) (by kernel_rfl) (fun _ _ _ h => h) (Or.inl ⟨by rfl, ?_⟩) (by assumption) ?_
  rotate_left 1
  · intro u hSw; obtain ⟨s1, s2, s3, s4, s5, s6⟩ := hSw; go_simp; try with_reducible rfl
  try simp only [Act.put, List.setIfInBounds_toArray, List.set_cons_zero, List.set_cons_succ]
  refine wpAnyH_take (i := 2) (oi := { dst := some 114, op := _, type := _, pos := _, after := _, guard := _ }) (v := ?_) rfl (by kernel_rfl) (by kernel_rfl) (by kernel_rfl) (fun _ _ _ h => h) (Or.inl ⟨by rfl, ?_⟩) (by assumption) ?_
  rotate_left 1
  · intro u hSw; obtain ⟨s1, s2, s3, s4, s5, s6⟩ := hSw; go_simp; try with_reducible rfl
  try simp only [Act.put, List.setIfInBounds_toArray, List.set_cons_zero, List.set_cons_succ]
  refine wpAnyH_take (i := 3) (oi := { dst := some 115, op := _, type := _, pos := _, after := _, guard := _ }) (v := ?_) rfl (by kernel_rfl) (by kernel_rfl) (by kernel_rfl) (fun _ _ _ h => h) (Or.inl ⟨by rfl, ?_⟩) (by assumption) ?_
  rotate_left 1
  · intro u hSw; obtain ⟨s1, s2, s3, s4, s5, s6⟩ := hSw; go_simp; try with_reducible rfl
  try simp only [Act.put, List.setIfInBounds_toArray, List.set_cons_zero, List.set_cons_succ]
  refine wpAnyH_take (i := 4) (oi := { dst := some 116, op := _, type := _, pos := _, after := _, guard := _ }) (v := ?_) rfl (by kernel_rfl) (by kernel_rfl) (by kernel_rfl) (fun _ _ _ h => h) (Or.inl ⟨by rfl, ?_⟩) (by assumption) ?_
  rotate_left 1
  · intro u hSw; obtain ⟨s1, s2, s3, s4, s5, s6⟩ := hSw; go_simp; try with_reducible rfl
  try simp only [Act.put, List.setIfInBounds_toArray, List.set_cons_zero, List.set_cons_succ]
  refine wpAnyH_take (i := 5) (oi := { dst := some 117, op := _, type := _, pos := _, after := _, guard := _ }) (v := ?_) rfl (by kernel_rfl) (by kernel_rfl) (by kernel_rfl) (fun _ _ _ h => h) (Or.inl ⟨by rfl, ?_⟩) (by assumption) ?_
  rotate_left 1
  · intro u hSw; obtain ⟨s1, s2, s3, s4, s5, s6⟩ := hSw; go_simp; try with_reducible rfl
  try simp only [Act.put, List.setIfInBounds_toArray, List.set_cons_zero, List.set_cons_succ]
  refine wpAnyH_take (i := 6) (oi := { dst := some 118, op := _, type := _, pos := _, after := _, guard := _ }) (v := ?_) rfl (by kernel_rfl) (by kernel_rfl) (by kernel_rfl) (fun _ _ _ h => h) (Or.inl ⟨by rfl, ?_⟩) (by assumption) ?_
  rotate_left 1
  · intro u hSw; obtain ⟨s1, s2, s3, s4, s5, s6⟩ := hSw; go_simp; try with_reducible rfl
  try simp only [Act.put, List.setIfInBounds_toArray, List.set_cons_zero, List.set_cons_succ]
  refine wpAnyH_take (i := 7) (oi := { dst := some 119, op := _, type := _, pos := _, after := _, guard := _ }) (v := ?_) rfl (by kernel_rfl) (by kernel_rfl) (by kernel_rfl) (fun _ _ _ h => h) (Or.inl ⟨by rfl, ?_⟩) (by assumption) ?_
  rotate_left 1
  · intro u hSw; obtain ⟨s1, s2, s3, s4, s5, s6⟩ := hSw; go_simp; try with_reducible rfl
  try simp only [Act.put, List.setIfInBounds_toArray, List.set_cons_zero, List.set_cons_succ]
  refine wpAnyH_take (i := 9) (oi := { dst := some 121, op := _, type := _, pos := _, after := _, guard := _ }) (v := ?_) rfl (by kernel_rfl) (by kernel_rfl) (by kernel_rfl) (fun _ _ _ h => h) (Or.inl ⟨by rfl, ?_⟩) (by assumption) ?_
  rotate_left 1
  · intro u hSw; obtain ⟨s1, s2, s3, s4, s5, s6⟩ := hSw; go_simp; try with_reducible rfl
  try simp only [Act.put, List.setIfInBounds_toArray, List.set_cons_zero, List.set_cons_succ]
  refine wpAnyH_take (i := 10) (oi := { dst := some 122, op := _, type := _, pos := _, after := _, guard := _ }) (v := ?_) rfl (by kernel_rfl) (by kernel_rfl) (by kernel_rfl) (fun _ _ _ h => h) (Or.inl ⟨by rfl, ?_⟩) (by assumption) ?_
  rotate_left 1
  · intro u hSw; obtain ⟨s1, s2, s3, s4, s5, s6⟩ := hSw; go_simp; try with_reducible rfl
  try simp only [Act.put, List.setIfInBounds_toArray, List.set_cons_zero, List.set_cons_succ]
  refine wpAnyH_take (i := 11) (oi := { dst := some 123, op := _, type := _, pos := _, after := _, guard := _ }) (v := ?_) rfl (by kernel_rfl) (by kernel_rfl) (by kernel_rfl) (fun _ _ _ h => h) (Or.inl ⟨by rfl, ?_⟩) (by assumption) ?_
  rotate_left 1
  · intro u hSw; obtain ⟨s1, s2, s3, s4, s5, s6⟩ := hSw; go_simp; try with_reducible rfl
  try simp only [Act.put, List.setIfInBounds_toArray, List.set_cons_zero, List.set_cons_succ]
  refine wpAnyH_take (i := 12) (oi := { dst := some 124, op := _, type := _, pos := _, after := _, guard := _ }) (v := ?_) rfl (by kernel_rfl) (by kernel_rfl) (by kernel_rfl) (fun _ _ _ h => h) (Or.inl ⟨by rfl, ?_⟩) (by assumption) ?_
  rotate_left 1
  · intro u hSw; obtain ⟨s1, s2, s3, s4, s5, s6⟩ := hSw; go_simp; try with_reducible rfl
  try simp only [Act.put, List.setIfInBounds_toArray, List.set_cons_zero, List.set_cons_succ]
  refine wpAnyH_take (i := 13) (oi := { dst := some 125, op := _, type := _, pos := _, after := _, guard := _ }) (v := ?_) rfl (by kernel_rfl) (by kernel_rfl) (by kernel_rfl) (fun _ _ _ h => h) (Or.inl ⟨by rfl, ?_⟩) (by assumption) ?_
  rotate_left 1
  · intro u hSw; obtain ⟨s1, s2, s3, s4, s5, s6⟩ := hSw; go_simp; try with_reducible rfl
  try simp only [Act.put, List.setIfInBounds_toArray, List.set_cons_zero, List.set_cons_succ]
  refine wpAnyH_take (i := 14) (oi := { dst := some 126, op := _, type := _, pos := _, after := _, guard := _ }) (v := ?_) rfl (by kernel_rfl) (by kernel_rfl) (by kernel_rfl) (fun _ _ _ h => h) (Or.inl ⟨by rfl, ?_⟩) (by assumption) ?_
  rotate_left 1
  · intro u hSw; obtain ⟨s1, s2, s3, s4, s5, s6⟩ := hSw; go_simp; try with_reducible rfl
  try simp only [Act.put, List.setIfInBounds_toArray, List.set_cons_zero, List.set_cons_succ]
  refine wpAnyH_take (i := 15) (oi := { dst := some 127, op := _, type := _, pos := _, after := _, guard := _ }) (v := ?_) rfl (by kernel_rfl) (by kernel_rfl) (by kernel_rfl) (fun _ _ _ h => h) (Or.inl ⟨by rfl, ?_⟩) (by assumption) ?_
  rotate_left 1
  · intro u hSw; obtain ⟨s1, s2, s3, s4, s5, s6⟩ := hSw; go_simp; try with_reducible rfl
  try simp only [Act.put, List.setIfInBounds_toArray, List.set_cons_zero, List.set_cons_succ]
  refine wpAnyH_take (i := 16) (oi := { dst := some 128, op := _, type := _, pos := _, after := _, guard := _ }) (v := ?_) rfl (by kernel_rfl) (by kernel_rfl) (by kernel_rfl) (fun _ _ _ h => h) (Or.inl ⟨by rfl, ?_⟩) (by assumption) ?_
  rotate_left 1
  · intro u hSw; obtain ⟨s1, s2, s3, s4, s5, s6⟩ := hSw; go_simp; try with_reducible rfl
  try simp only [Act.put, List.setIfInBounds_toArray, List.set_cons_zero, List.set_cons_succ]
  refine wpAnyH_ready (rs := [8]) (by kernel_rfl) (by simp) ?_
  refine AllReadyH.cons (o := { dst := some 120, op := _, type := _, pos := _, after := _, guard := _ }) rfl (fun K hK => ?_) AllReadyH.nil
  go_simp
  refine (jp_rename HD1.out.jg q.name q.to hs ht).mono ?_
  rintro e w2 ⟨v, rfl, rfl, hj2, F2⟩
  have HD2 := hide2 (HD1.out.next hj2 F2)
  have HF2 := hide2 F2
  clear hj2 F2
  go_wp2_with fail
  refine hK.out _ _ (HD2.out.six) (fun hHeld => ?_)
  clear hK K
  try simp only [Act.put, List.setIfInBounds_toArray, List.set_cons_zero, List.set_cons_succ]
  refine wpAnyH_ready (rs := [17]) (by kernel_rfl) (by simp) ?_
  refine AllReadyH.cons (o := { dst := some 129, op := _, type := _, pos := _, after := _, guard := _ }) rfl (fun K hK => ?_) AllReadyH.nil
  go_simp
  refine (jr_rename HD2.out.jg q.name q.to hs ht).mono ?_
  rintro e w3 ⟨v, rfl, rfl, hj3, F3⟩
  have HD3 := hide2 (HD2.out.next hj3 F3)
  have HF3 := hide2 F3
  clear hj3 F3
  go_wp2_with fail
  refine hK.out _ _ (HD3.out.six) (fun hHeld => ?_)
  clear hK K
  try simp only [Act.put, List.setIfInBounds_toArray, List.set_cons_zero, List.set_cons_succ]
  refine wpAnyH_take (i := 18) (oi := { dst := some 130, op := _, type := _, pos := _, after := _, guard := _ }) (v := ?_) rfl (by kernel_rfl) (by kernel_rfl) (by kernel_rfl) (fun _ _ _ h => h) (Or.inl ⟨by rfl, ?_⟩) (by assumption) ?_
  rotate_left 1
  · intro u hSw; obtain ⟨s1, s2, s3, s4, s5, s6⟩ := hSw; go_simp; try with_reducible rfl
  try simp only [Act.put, List.setIfInBounds_toArray, List.set_cons_zero, List.set_cons_succ]
  refine wpAnyH_take (i := 19) (oi := { dst := some 4, op := _, type := _, pos := _, after := _, guard := _ }) (v := ?_) rfl (by kernel_rfl) (by kernel_rfl) (by kernel_rfl) (fun _ _ _ h => h) (Or.inl ⟨by rfl, ?_⟩) (by assumption) ?_
  rotate_left 1
  · intro u hSw; obtain ⟨s1, s2, s3, s4, s5, s6⟩ := hSw; go_simp; try with_reducible rfl
  try simp only [Act.put, List.setIfInBounds_toArray, List.set_cons_zero, List.set_cons_succ]
  refine wpAnyH_done (by kernel_rfl) ?_ _
  refine NoPanic.normal ?_
  go_wp2
  go_ret
  refine ⟨rfl, d, r, _, _, _, HD3.out.jg.less (fun j e => .inl e), HD3.out.wx, ?_⟩
  refine (HF1.out.drewN 1).trans ((HF2.out.trans HF3.out (fun j hj => .inl hj)).mono (G := fun j => ¬ E j ∨ j = x) (fun j _ hj => .inl (fun e => hj (.inl e)))) (fun j hj => .inl hj)

set_option maxRecDepth 100000 in
set_option maxHeartbeats 4000000 in
theorem jd_delete (h : Jg w E d r P c o P c o) (hx : Wx w x d r) (hE : E x) (q : OpR) (hk : pk q.kind = 4) (hlo : -9223372036854775808 ≤ q.kind) (hhi : q.kind ≤ 9223372036854775807) (hs : q.name.size ≤ maxLen) :
    Calls Try.prog 11 #[.pointer (some ⟨x, 0, none⟩), q.val] w fun e w' => e = .returned (.bool true) ∧ Dres w w' E x := by
  have D1 := Dy.start h hx hE q
  obtain ⟨b0, -⟩ := D1.bx.cells
  have hxl := hx.lt
  have HP := hide2 (pick_any q.kind (w.alloc (.cells #[.int .i64 q.kind, .string q.name, .string q.to, .slice q.bo q.bl q.bc, .int .i64 q.n, .int .i64 q.k1, .int .i64 q.k2, .int .i64 q.k3] 36)) hlo hhi)
  rw [hk] at HP
  have F1 : Fr (fun j => ¬ E j ∨ j = x) w (w.alloc (.cells #[.int .i64 q.kind, .string q.name, .string q.to, .slice q.bo q.bl q.bc, .int .i64 q.n, .int .i64 q.k1, .int .i64 q.k2, .int .i64 q.k3] 36)) := (Fr.refl _ w).alloc _
  obtain ⟨s1, s2, s3, s4, s5, s6⟩ := D1.six
  have hel : ∀ j, E j → j < w.heap.size := fun j e => by
    obtain ⟨⟨K, κ, ca, g1, g2, g3, g4, g5⟩, -, -⟩ := h
    exact (g5 j e).2
  unfold OpR.val
  generalize hW : w.alloc (.cells #[.int .i64 q.kind, .string q.name, .string q.to, .slice q.bo q.bl q.bc, .int .i64 q.n, .int .i64 q.k1, .int .i64 q.k2, .int .i64 q.k3] 36) = W at *
  go_enter Try.func11, Try.ntmps11
  go_wp2_with fail
  try rw [hW]
  refine HP.out.mono ?_
  rintro e w1 ⟨rfl, rfl⟩
  clear HP
  have HD1 := hide2 D1.drew
  have HF1 := hide2 F1
  have HEL := hide2 hel
  clear D1 F1 hel hW h hx
  go_wp2
  refine wp_region_noPanic ?_
  refine wp_region_held_drew (S := (fun u : World => u.cell? ⟨x, 0, none⟩ = some (.pointer (some ⟨d, 0, none⟩)) ∧ u.cell? ⟨x, 1, none⟩ = some (.pointer (some ⟨r, 0, none⟩)) ∧ u.cell? ⟨w.heap.size, 1, none⟩ = some (.string q.name) ∧ u.cell? ⟨w.heap.size, 2, none⟩ = some (.string q.to) ∧ u.cell? ⟨w.heap.size, 3, none⟩ = some (.slice q.bo q.bl q.bc) ∧ u.cell? ⟨w.heap.size, 4, none⟩ = some (.int .i64 q.n))) (by kernel_rfl) (⟨s1, s2, s3, s4, s5, s6⟩) (fun hHeld => ?_)
  refine wpAnyH_take (i := 0) (oi := { dst := some 133, op := _, type := _, pos := _, after := _, guard := _ }) (v := ?_) rfl (by kernel_rfl) (by kernel_rfl) (by kernel_rfl) (fun _ _ _ h => h) (Or.inl ⟨by rfl, ?_⟩) (by assumption) ?_
  rotate_left 1
  · intro u hSw; obtain ⟨s1, s2, s3, s4, s5, s6⟩ := hSw; go_simp; try with_reducible rfl
  try simp only [Act.put, List.setIfInBounds_toArray, List.set_cons_zero, List.set_cons_succ]
  refine wpAnyH_take (i := 1) (oi := { dst := some 134, op := _, type := _, pos := _, after := _, guard := _ }) (v := ?_) rfl (by kernel_rfl) (by kernel_rfl) (by kernel_rfl) (fun _ _ _ h => h) (Or.inl ⟨by rfl, ?_⟩) (by assumption) ?_
  rotate_left 1
  · intro u hSw; obtain ⟨s1, s2, s3, s4, s5, s6⟩ := hSw; go_simp; try with_reducible rfl
  try simp only [Act.put, List.setIfInBounds_toArray, List.set_cons_zero, List.set_cons_succ]
  refine wpAnyH_take (i := 2) (oi := { dst := some 135, op := _, type := _, pos := _, after := _, guard := _ }) (v := ?_) rfl (by kernel_rfl) (by kernel_rfl) (by kernel_rfl) (fun _ _ _ h => h) (Or.inl ⟨by rfl, ?_⟩) (by assumption) ?_
  rotate_left 1
  · intro u hSw; obtain ⟨s1, s2, s3, s4, s5, s6⟩ := hSw; go_simp; try with_reducible rfl
  try simp only [Act.put, List.setIfInBounds_toArray, List.set_cons_zero, List.set_cons_succ]
  refine wpAnyH_take (i := 3) (oi := { dst := some 136, op := _, type := _, pos := _, after := _, guard := _ }) (v := ?_) rfl (by kernel_rfl) (by kernel_rfl) (by kernel_rfl) (fun _ _ _ h => h) (Or.inl ⟨by rfl, ?_⟩) (by assumption) ?_
  rotate_left 1
  · intro u hSw; obtain ⟨s1, s2, s3, s4, s5, s6⟩ := hSw; go_simp; try with_reducible rfl
  try simp only [Act.put, List.setIfInBounds_toArray, List.set_cons_zero, List.set_cons_succ]
  refine wpAnyH_take (i := 4) (oi := { dst := some 137, op := _, type := _, pos := _, after := _, guard := _ }) (v := ?_) rfl (by kernel_rfl) (by kernel_rfl) (by kernel_rfl) (fun _ _ _ h => h) (Or.inl ⟨by rfl, ?_⟩) (by assumption) ?_
  rotate_left 1
  · intro u hSw; obtain ⟨s1, s2, s3, s4, s5, s6⟩ := hSw; go_simp; try with_reducible rfl
  try simp only [Act.put, List.setIfInBounds_toArray, List.set_cons_zero, List.set_cons_succ]
  refine wpAnyH_take (i := 5) (oi := { dst := some 138, op := _, type := _, pos := _, after := _, guard := _ }) (v := ?_) rfl (by kernel_rfl) (by kernel_rfl) (by kernel_rfl) (fun _ _ _ h => h) (Or.inl ⟨by rfl, ?_⟩) (by assumption) ?_
  rotate_left 1
  · intro u hSw; obtain ⟨s1, s2, s3, s4, s5, s6⟩ := hSw; go_simp; try with_reducible rfl
  try simp only [Act.put, List.setIfInBounds_toArray, List.set_cons_zero, List.set_cons_succ]
  refine wpAnyH_take (i := 7) (oi := { dst := some 140, op := _, type := _, pos := _, after := _, guard := _ }) (v := ?_) rfl (by kernel_rfl) (by kernel_rfl) (by kernel_rfl) (fun _ _ _ h => h) (Or.inl ⟨by rfl, ?_⟩) (by assumption) ?_
  rotate_left 1
  · intro u hSw; obtain ⟨s1, s2, s3, s4, s5, s6⟩ := hSw; go_simp; try with_reducible rfl
  try simp only [Act.put, List.setIfInBounds_toArray, List.set_cons_zero, List.set_cons_succ]
  refine wpAnyH_take (i := 8) (oi := { dst := some 141, op := _, type := _, pos := _, after := _, guard := _ }) (v := ?_) rfl (by kernel_rfl) (by kernel_rfl) (by kernel_rfl) (fun _ _ _ h => h) (Or.inl ⟨by rfl, ?_⟩) (by assumption) ?_
  rotate_left 1
  · intro u hSw; obtain ⟨s1, s2, s3, s4, s5, s6⟩ := hSw; go_simp; try with_reducible rfl
  try simp only [Act.put, List.setIfInBounds_toArray, List.set_cons_zero, List.set_cons_succ]
  refine wpAnyH_take (i := 9) (oi := { dst := some 142, op := _, type := _, pos := _, after := _, guard := _ }) (v := ?_) rfl (by kernel_rfl) (by kernel_rfl) (by kernel_rfl) (fun _ _ _ h => h) (Or.inl ⟨by rfl, ?_⟩) (by assumption) ?_
  rotate_left 1
  · intro u hSw; obtain ⟨s1, s2, s3, s4, s5, s6⟩ := hSw; go_simp; try with_reducible rfl
  try simp only [Act.put, List.setIfInBounds_toArray, List.set_cons_zero, List.set_cons_succ]
  refine wpAnyH_take (i := 10) (oi := { dst := some 143, op := _, type := _, pos := _, after := _, guard := _ }) (v := ?_) rfl (by kernel_rfl) (by kernel_rfl) (by kernel_rfl) (fun _ _ _ h => h) (Or.inl ⟨by rfl, ?_⟩) (by assumption) ?_
  rotate_left 1
  · intro u hSw; obtain ⟨s1, s2, s3, s4, s5, s6⟩ := hSw; go_simp; try with_reducible rfl
  try simp only [Act.put, List.setIfInBounds_toArray, List.set_cons_zero, List.set_cons_succ]
  refine wpAnyH_take (i := 11) (oi := { dst := some 144, op := _, type := _, pos := _, after := _, guard := _ }) (v := ?_) rfl (by kernel_rfl) (by kernel_rfl) (by kernel_rfl) (fun _ _ _ h => h) (Or.inl ⟨by rfl, ?_⟩) (by assumption) ?_
  rotate_left 1
  · intro u hSw; obtain ⟨s1, s2, s3, s4, s5, s6⟩ := hSw; go_simp; try with_reducible rfl
  try simp only [Act.put, List.setIfInBounds_toArray, List.set_cons_zero, List.set_cons_succ]
  refine wpAnyH_take (i := 12) (oi := { dst := some 145, op := _, type := _, pos := _, after := _, guard := _ }) (v := ?_) rfl (by kernel_rfl) (by kernel_rfl) (by kernel_rfl) (fun _ _ _ h => h) (Or.inl ⟨by rfl, ?_⟩) (by assumption) ?_
  rotate_left 1
  · intro u hSw; obtain ⟨s1, s2, s3, s4, s5, s6⟩ := hSw; go_simp; try with_reducible rfl
  try simp only [Act.put, List.setIfInBounds_toArray, List.set_cons_zero, List.set_cons_succ]
  refine wpAnyH_ready (rs := [6]) (by kernel_rfl) (by simp) ?_
  refine AllReadyH.cons (o := { dst := some 139, op := _, type := _, pos := _, after := _, guard := _ }) rfl (fun K hK => ?_) AllReadyH.nil
  go_simp
  refine (jp_delete HD1.out.jg q.name hs).mono ?_
  rintro e w2 ⟨v, rfl, rfl, hj2, F2⟩
  have HD2 := hide2 (HD1.out.next hj2 F2)
  have HF2 := hide2 F2
  clear hj2 F2
  go_wp2_with fail
  refine hK.out _ _ (HD2.out.six) (fun hHeld => ?_)
  clear hK K
  try simp only [Act.put, List.setIfInBounds_toArray, List.set_cons_zero, List.set_cons_succ]
  refine wpAnyH_ready (rs := [13]) (by kernel_rfl) (by simp) ?_
  refine AllReadyH.cons (o := { dst := some 146, op := _, type := _, pos := _, after := _, guard := _ }) rfl (fun K hK => ?_) AllReadyH.nil
  go_simp
  refine (jr_delete HD2.out.jg q.name hs).mono ?_
  rintro e w3 ⟨v, rfl, rfl, hj3, F3⟩
  have HD3 := hide2 (HD2.out.next hj3 F3)
  have HF3 := hide2 F3
  clear hj3 F3
  go_wp2_with fail
  refine hK.out _ _ (HD3.out.six) (fun hHeld => ?_)
  clear hK K
  try simp only [Act.put, List.setIfInBounds_toArray, List.set_cons_zero, List.set_cons_succ]
  refine wpAnyH_take (i := 14) (oi := { dst := some 147, op := _, type := _, pos := _, after := _, guard := _ }) (v := ?_) rfl (by kernel_rfl) (by kernel_rfl) (by kernel_rfl) (fun _ _ _ h => h) (Or.inl ⟨by rfl, ?_⟩) (by assumption) ?_
  rotate_left 1
  · intro u hSw; obtain ⟨s1, s2, s3, s4, s5, s6⟩ := hSw; go_simp; try with_reducible rfl
  try simp only [Act.put, List.setIfInBounds_toArray, List.set_cons_zero, List.set_cons_succ]
  refine wpAnyH_take (i := 15) (oi := { dst := some 4, op := _, type := _, pos := _, after := _, guard := _ }) (v := ?_) rfl (by kernel_rfl) (by kernel_rfl) (by kernel_rfl) (fun _ _ _ h => h) (Or.inl ⟨by rfl, ?_⟩) (by assumption) ?_
  rotate_left 1
  · intro u hSw; obtain ⟨s1, s2, s3, s4, s5, s6⟩ := hSw; go_simp; try with_reducible rfl
  try simp only [Act.put, List.setIfInBounds_toArray, List.set_cons_zero, List.set_cons_succ]
  refine wpAnyH_done (by kernel_rfl) ?_ _
  refine NoPanic.normal ?_
  go_wp2
  go_ret
  refine ⟨rfl, d, r, _, _, _, HD3.out.jg.less (fun j e => .inl e), HD3.out.wx, ?_⟩
  refine (HF1.out.drewN 1).trans ((HF2.out.trans HF3.out (fun j hj => .inl hj)).mono (G := fun j => ¬ E j ∨ j = x) (fun j _ hj => .inl (fun e => hj (.inl e)))) (fun j hj => .inl hj)

set_option maxRecDepth 100000 in
set_option maxHeartbeats 4000000 in
theorem jd_syncDir (h : Jg w E d r P c o P c o) (hx : Wx w x d r) (hE : E x) (q : OpR) (hk : pk q.kind = 5) (hlo : -9223372036854775808 ≤ q.kind) (hhi : q.kind ≤ 9223372036854775807)  :
    Calls Try.prog 11 #[.pointer (some ⟨x, 0, none⟩), q.val] w fun e w' => e = .returned (.bool true) ∧ Dres w w' E x := by
  have D1 := Dy.start h hx hE q
  obtain ⟨b0, -⟩ := D1.bx.cells
  have hxl := hx.lt
  have HP := hide2 (pick_any q.kind (w.alloc (.cells #[.int .i64 q.kind, .string q.name, .string q.to, .slice q.bo q.bl q.bc, .int .i64 q.n, .int .i64 q.k1, .int .i64 q.k2, .int .i64 q.k3] 36)) hlo hhi)
  rw [hk] at HP
  have F1 : Fr (fun j => ¬ E j ∨ j = x) w (w.alloc (.cells #[.int .i64 q.kind, .string q.name, .string q.to, .slice q.bo q.bl q.bc, .int .i64 q.n, .int .i64 q.k1, .int .i64 q.k2, .int .i64 q.k3] 36)) := (Fr.refl _ w).alloc _
  obtain ⟨s1, s2, s3, s4, s5, s6⟩ := D1.six
  have hel : ∀ j, E j → j < w.heap.size := fun j e => by
    obtain ⟨⟨K, κ, ca, g1, g2, g3, g4, g5⟩, -, -⟩ := h
    exact (g5 j e).2
  unfold OpR.val
  generalize hW : w.alloc (.cells #[.int .i64 q.kind, .string q.name, .string q.to, .slice q.bo q.bl q.bc, .int .i64 q.n, .int .i64 q.k1, .int .i64 q.k2, .int .i64 q.k3] 36) = W at *
  go_enter Try.func11, Try.ntmps11
  go_wp2_with fail
  try rw [hW]
  refine HP.out.mono ?_
  rintro e w1 ⟨rfl, rfl⟩
  clear HP
  have HD1 := hide2 D1.drew
  have HF1 := hide2 F1
  have HEL := hide2 hel
  clear D1 F1 hel hW h hx
  go_wp2
  refine wp_region_noPanic ?_
  refine wp_region_held_drew (S := (fun u : World => u.cell? ⟨x, 0, none⟩ = some (.pointer (some ⟨d, 0, none⟩)) ∧ u.cell? ⟨x, 1, none⟩ = some (.pointer (some ⟨r, 0, none⟩)) ∧ u.cell? ⟨w.heap.size, 1, none⟩ = some (.string q.name) ∧ u.cell? ⟨w.heap.size, 2, none⟩ = some (.string q.to) ∧ u.cell? ⟨w.heap.size, 3, none⟩ = some (.slice q.bo q.bl q.bc) ∧ u.cell? ⟨w.heap.size, 4, none⟩ = some (.int .i64 q.n))) (by kernel_rfl) (⟨s1, s2, s3, s4, s5, s6⟩) (fun hHeld => ?_)
  refine wpAnyH_take (i := 0) (oi := { dst := some 150, op := _, type := _, pos := _, after := _, guard := _ }) (v := ?_) rfl (by kernel_rfl) (by kernel_rfl) (by kernel_rfl) (fun _ _ _ h => h) (Or.inl ⟨by rfl, ?_⟩) (by assumption) ?_
  rotate_left 1
  · intro u hSw; obtain ⟨s1, s2, s3, s4, s5, s6⟩ := hSw; go_simp; try with_reducible rfl
  try simp only [Act.put, List.setIfInBounds_toArray, List.set_cons_zero, List.set_cons_succ]
  refine wpAnyH_take (i := 1) (oi := { dst := some 151, op := _, type := _, pos := _, after := _, guard := _ }) (v := ?_) rfl (by kernel_rfl) (by kernel_rfl) (by kernel_rfl) (fun _ _ _ h => h) (Or.inl ⟨by rfl, ?_⟩) (by assumption) ?_
  rotate_left 1
  · intro u hSw; obtain ⟨s1, s2, s3, s4, s5, s6⟩ := hSw; go_simp; try with_reducible rfl
  try simp only [Act.put, List.setIfInBounds_toArray, List.set_cons_zero, List.set_cons_succ]
  refine wpAnyH_take (i := 2) (oi := { dst := some 152, op := _, type := _, pos := _, after := _, guard := _ }) (v := ?_) rfl (by kernel_rfl) (by kernel_rfl) (by kernel_rfl) (fun _ _ _ h => h) (Or.inl ⟨by rfl, ?_⟩) (by assumption) ?_
  rotate_left 1
  · intro u hSw; obtain ⟨s1, s2, s3, s4, s5, s6⟩ := hSw; go_simp; try with_reducible rfl
  try simp only [Act.put, List.setIfInBounds_toArray, List.set_cons_zero, List.set_cons_succ]
  refine wpAnyH_take (i := 3) (oi := { dst := some 153, op := _, type := _, pos := _, after := _, guard := _ }) (v := ?_) rfl (by kernel_rfl) (by kernel_rfl) (by kernel_rfl) (fun _ _ _ h => h) (Or.inl ⟨by rfl, ?_⟩) (by assumption) ?_
  rotate_left 1
  · intro u hSw; obtain ⟨s1, s2, s3, s4, s5, s6⟩ := hSw; go_simp; try with_reducible rfl
  try simp only [Act.put, List.setIfInBounds_toArray, List.set_cons_zero, List.set_cons_succ]
  refine wpAnyH_take (i := 5) (oi := { dst := some 155, op := _, type := _, pos := _, after := _, guard := _ }) (v := ?_) rfl (by kernel_rfl) (by kernel_rfl) (by kernel_rfl) (fun _ _ _ h => h) (Or.inl ⟨by rfl, ?_⟩) (by assumption) ?_
  rotate_left 1
  · intro u hSw; obtain ⟨s1, s2, s3, s4, s5, s6⟩ := hSw; go_simp; try with_reducible rfl
  try simp only [Act.put, List.setIfInBounds_toArray, List.set_cons_zero, List.set_cons_succ]
  refine wpAnyH_take (i := 6) (oi := { dst := some 156, op := _, type := _, pos := _, after := _, guard := _ }) (v := ?_) rfl (by kernel_rfl) (by kernel_rfl) (by kernel_rfl) (fun _ _ _ h => h) (Or.inl ⟨by rfl, ?_⟩) (by assumption) ?_
  rotate_left 1
  · intro u hSw; obtain ⟨s1, s2, s3, s4, s5, s6⟩ := hSw; go_simp; try with_reducible rfl
  try simp only [Act.put, List.setIfInBounds_toArray, List.set_cons_zero, List.set_cons_succ]
  refine wpAnyH_take (i := 7) (oi := { dst := some 157, op := _, type := _, pos := _, after := _, guard := _ }) (v := ?_) rfl (by kernel_rfl) (by kernel_rfl) (by kernel_rfl) (fun _ _ _ h => h) (Or.inl ⟨by rfl, ?_⟩) (by assumption) ?_
  rotate_left 1
  · intro u hSw; obtain ⟨s1, s2, s3, s4, s5, s6⟩ := hSw; go_simp; try with_reducible rfl
  try simp only [Act.put, List.setIfInBounds_toArray, List.set_cons_zero, List.set_cons_succ]
  refine wpAnyH_take (i := 8) (oi := { dst := some 158, op := _, type := _, pos := _, after := _, guard := _ }) (v := ?_) rfl (by kernel_rfl) (by kernel_rfl) (by kernel_rfl) (fun _ _ _ h => h) (Or.inl ⟨by rfl, ?_⟩) (by assumption) ?_
  rotate_left 1
  · intro u hSw; obtain ⟨s1, s2, s3, s4, s5, s6⟩ := hSw; go_simp; try with_reducible rfl
  try simp only [Act.put, List.setIfInBounds_toArray, List.set_cons_zero, List.set_cons_succ]
  refine wpAnyH_ready (rs := [4]) (by kernel_rfl) (by simp) ?_
  refine AllReadyH.cons (o := { dst := some 154, op := _, type := _, pos := _, after := _, guard := _ }) rfl (fun K hK => ?_) AllReadyH.nil
  go_simp
  refine (jp_syncDir HD1.out.jg).mono ?_
  rintro e w2 ⟨v, rfl, rfl, hj2, F2⟩
  have HD2 := hide2 (HD1.out.next hj2 F2)
  have HF2 := hide2 F2
  clear hj2 F2
  go_wp2_with fail
  refine hK.out _ _ (HD2.out.six) (fun hHeld => ?_)
  clear hK K
  try simp only [Act.put, List.setIfInBounds_toArray, List.set_cons_zero, List.set_cons_succ]
  refine wpAnyH_ready (rs := [9]) (by kernel_rfl) (by simp) ?_
  refine AllReadyH.cons (o := { dst := some 159, op := _, type := _, pos := _, after := _, guard := _ }) rfl (fun K hK => ?_) AllReadyH.nil
  go_simp
  refine (jr_syncDir HD2.out.jg).mono ?_
  rintro e w3 ⟨v, rfl, rfl, hj3, F3⟩
  have HD3 := hide2 (HD2.out.next hj3 F3)
  have HF3 := hide2 F3
  clear hj3 F3
  go_wp2_with fail
  refine hK.out _ _ (HD3.out.six) (fun hHeld => ?_)
  clear hK K
  try simp only [Act.put, List.setIfInBounds_toArray, List.set_cons_zero, List.set_cons_succ]
  refine wpAnyH_take (i := 10) (oi := { dst := some 160, op := _, type := _, pos := _, after := _, guard := _ }) (v := ?_) rfl (by kernel_rfl) (by kernel_rfl) (by kernel_rfl) (fun _ _ _ h => h) (Or.inl ⟨by rfl, ?_⟩) (by assumption) ?_
  rotate_left 1
  · intro u hSw; obtain ⟨s1, s2, s3, s4, s5, s6⟩ := hSw; go_simp; try with_reducible rfl
  try simp only [Act.put, List.setIfInBounds_toArray, List.set_cons_zero, List.set_cons_succ]
  refine wpAnyH_take (i := 11) (oi := { dst := some 4, op := _, type := _, pos := _, after := _, guard := _ }) (v := ?_) rfl (by kernel_rfl) (by kernel_rfl) (by kernel_rfl) (fun _ _ _ h => h) (Or.inl ⟨by rfl, ?_⟩) (by assumption) ?_
  rotate_left 1
  · intro u hSw; obtain ⟨s1, s2, s3, s4, s5, s6⟩ := hSw; go_simp; try with_reducible rfl
  try simp only [Act.put, List.setIfInBounds_toArray, List.set_cons_zero, List.set_cons_succ]
  refine wpAnyH_done (by kernel_rfl) ?_ _
  refine NoPanic.normal ?_
  go_wp2
  go_ret
  refine ⟨rfl, d, r, _, _, _, HD3.out.jg.less (fun j e => .inl e), HD3.out.wx, ?_⟩
  refine (HF1.out.drewN 1).trans ((HF2.out.trans HF3.out (fun j hj => .inl hj)).mono (G := fun j => ¬ E j ∨ j = x) (fun j _ hj => .inl (fun e => hj (.inl e)))) (fun j hj => .inl hj)

set_option maxRecDepth 100000 in
set_option maxHeartbeats 4000000 in
theorem jd_poke (h : Jg w E d r P c o P c o) (hx : Wx w x d r) (hE : E x) (q : OpR) (hk : pk q.kind = 7) (hlo : -9223372036854775808 ≤ q.kind) (hhi : q.kind ≤ 9223372036854775807) (hs : q.name.size ≤ maxLen) :
    Calls Try.prog 11 #[.pointer (some ⟨x, 0, none⟩), q.val] w fun e w' => e = .returned (.bool true) ∧ Dres w w' E x := by
  have D1 := Dy.start h hx hE q
  obtain ⟨b0, -⟩ := D1.bx.cells
  have hxl := hx.lt
  have HP := hide2 (pick_any q.kind (w.alloc (.cells #[.int .i64 q.kind, .string q.name, .string q.to, .slice q.bo q.bl q.bc, .int .i64 q.n, .int .i64 q.k1, .int .i64 q.k2, .int .i64 q.k3] 36)) hlo hhi)
  rw [hk] at HP
  have F1 : Fr (fun j => ¬ E j ∨ j = x) w (w.alloc (.cells #[.int .i64 q.kind, .string q.name, .string q.to, .slice q.bo q.bl q.bc, .int .i64 q.n, .int .i64 q.k1, .int .i64 q.k2, .int .i64 q.k3] 36)) := (Fr.refl _ w).alloc _
  obtain ⟨s1, s2, s3, s4, s5, s6⟩ := D1.six
  have hel : ∀ j, E j → j < w.heap.size := fun j e => by
    obtain ⟨⟨K, κ, ca, g1, g2, g3, g4, g5⟩, -, -⟩ := h
    exact (g5 j e).2
  unfold OpR.val
  generalize hW : w.alloc (.cells #[.int .i64 q.kind, .string q.name, .string q.to, .slice q.bo q.bl q.bc, .int .i64 q.n, .int .i64 q.k1, .int .i64 q.k2, .int .i64 q.k3] 36) = W at *
  go_enter Try.func11, Try.ntmps11
  go_wp2_with fail
  try rw [hW]
  refine HP.out.mono ?_
  rintro e w1 ⟨rfl, rfl⟩
  clear HP
  have HD1 := hide2 D1.drew
  have HF1 := hide2 F1
  have HEL := hide2 hel
  clear D1 F1 hel hW h hx
  go_wp2
  refine wp_region_noPanic ?_
  refine wp_region_held_drew (S := (fun u : World => u.cell? ⟨x, 0, none⟩ = some (.pointer (some ⟨d, 0, none⟩)) ∧ u.cell? ⟨x, 1, none⟩ = some (.pointer (some ⟨r, 0, none⟩)) ∧ u.cell? ⟨w.heap.size, 1, none⟩ = some (.string q.name) ∧ u.cell? ⟨w.heap.size, 2, none⟩ = some (.string q.to) ∧ u.cell? ⟨w.heap.size, 3, none⟩ = some (.slice q.bo q.bl q.bc) ∧ u.cell? ⟨w.heap.size, 4, none⟩ = some (.int .i64 q.n))) (by kernel_rfl) (⟨s1, s2, s3, s4, s5, s6⟩) (fun hHeld => ?_)
  refine wpAnyH_take (i := 0) (oi := { dst := some 179, op := _, type := _, pos := _, after := _, guard := _ }) (v := ?_) rfl (by kernel_rfl) (by kernel_rfl) (by kernel_rfl) (fun _ _ _ h => h) (Or.inl ⟨by rfl, ?_⟩) (by assumption) ?_
  rotate_left 1
  · intro u hSw; obtain ⟨s1, s2, s3, s4, s5, s6⟩ := hSw; go_simp; try with_reducible rfl
  try simp only [Act.put, List.setIfInBounds_toArray, List.set_cons_zero, List.set_cons_succ]
  refine wpAnyH_take (i := 1) (oi := { dst := some 180, op := _, type := _, pos := _, after := _, guard := _ }) (v := ?_) rfl (by kernel_rfl) (by kernel_rfl) (by kernel_rfl) (fun _ _ _ h => h) (Or.inl ⟨by rfl, ?_⟩) (by assumption) ?_
  rotate_left 1
  · intro u hSw; obtain ⟨s1, s2, s3, s4, s5, s6⟩ := hSw; go_simp; try with_reducible rfl
  try simp only [Act.put, List.setIfInBounds_toArray, List.set_cons_zero, List.set_cons_succ]
  refine wpAnyH_take (i := 2) (oi := { dst := some 181, op := _, type := _, pos := _, after := _, guard := _ }) (v := ?_) rfl (by kernel_rfl) (by kernel_rfl) (by kernel_rfl) (fun _ _ _ h => h) (Or.inl ⟨by rfl, ?_⟩) (by assumption) ?_
  rotate_left 1
  · intro u hSw; obtain ⟨s1, s2, s3, s4, s5, s6⟩ := hSw; go_simp; try with_reducible rfl
  try simp only [Act.put, List.setIfInBounds_toArray, List.set_cons_zero, List.set_cons_succ]
  refine wpAnyH_take (i := 3) (oi := { dst := some 182, op := _, type := _, pos := _, after := _, guard := _ }) (v := ?_) rfl (by kernel_rfl) (by kernel_rfl) (by kernel_rfl) (fun _ _ _ h => h) (Or.inl ⟨by rfl, ?_⟩) (by assumption) ?_
  rotate_left 1
  · intro u hSw; obtain ⟨s1, s2, s3, s4, s5, s6⟩ := hSw; go_simp; try with_reducible rfl
  try simp only [Act.put, List.setIfInBounds_toArray, List.set_cons_zero, List.set_cons_succ]
  refine wpAnyH_take (i := 4) (oi := { dst := some 183, op := _, type := _, pos := _, after := _, guard := _ }) (v := ?_) rfl (by kernel_rfl) (by kernel_rfl) (by kernel_rfl) (fun _ _ _ h => h) (Or.inl ⟨by rfl, ?_⟩) (by assumption) ?_
  rotate_left 1
  · intro u hSw; obtain ⟨s1, s2, s3, s4, s5, s6⟩ := hSw; go_simp; try with_reducible rfl
  try simp only [Act.put, List.setIfInBounds_toArray, List.set_cons_zero, List.set_cons_succ]
  refine wpAnyH_take (i := 5) (oi := { dst := some 184, op := _, type := _, pos := _, after := _, guard := _ }) (v := ?_) rfl (by kernel_rfl) (by kernel_rfl) (by kernel_rfl) (fun _ _ _ h => h) (Or.inl ⟨by rfl, ?_⟩) (by assumption) ?_
  rotate_left 1
  · intro u hSw; obtain ⟨s1, s2, s3, s4, s5, s6⟩ := hSw; go_simp; try with_reducible rfl
  try simp only [Act.put, List.setIfInBounds_toArray, List.set_cons_zero, List.set_cons_succ]
  refine wpAnyH_take (i := 6) (oi := { dst := some 185, op := _, type := _, pos := _, after := _, guard := _ }) (v := ?_) rfl (by kernel_rfl) (by kernel_rfl) (by kernel_rfl) (fun _ _ _ h => h) (Or.inl ⟨by rfl, ?_⟩) (by assumption) ?_
  rotate_left 1
  · intro u hSw; obtain ⟨s1, s2, s3, s4, s5, s6⟩ := hSw; go_simp; try with_reducible rfl
  try simp only [Act.put, List.setIfInBounds_toArray, List.set_cons_zero, List.set_cons_succ]
  refine wpAnyH_take (i := 7) (oi := { dst := some 186, op := _, type := _, pos := _, after := _, guard := _ }) (v := ?_) rfl (by kernel_rfl) (by kernel_rfl) (by kernel_rfl) (fun _ _ _ h => h) (Or.inl ⟨by rfl, ?_⟩) (by assumption) ?_
  rotate_left 1
  · intro u hSw; obtain ⟨s1, s2, s3, s4, s5, s6⟩ := hSw; go_simp; try with_reducible rfl
  try simp only [Act.put, List.setIfInBounds_toArray, List.set_cons_zero, List.set_cons_succ]
  refine wpAnyH_take (i := 8) (oi := { dst := some 187, op := _, type := _, pos := _, after := _, guard := _ }) (v := ?_) rfl (by kernel_rfl) (by kernel_rfl) (by kernel_rfl) (fun _ _ _ h => h) (Or.inl ⟨by rfl, ?_⟩) (by assumption) ?_
  rotate_left 1
  · intro u hSw; obtain ⟨s1, s2, s3, s4, s5, s6⟩ := hSw; go_simp; try with_reducible rfl
  try simp only [Act.put, List.setIfInBounds_toArray, List.set_cons_zero, List.set_cons_succ]
  refine wpAnyH_take (i := 9) (oi := { dst := some 188, op := _, type := _, pos := _, after := _, guard := _ }) (v := ?_) rfl (by kernel_rfl) (by kernel_rfl) (by kernel_rfl) (fun _ _ _ h => h) (Or.inl ⟨by rfl, ?_⟩) (by assumption) ?_
  rotate_left 1
  · intro u hSw; obtain ⟨s1, s2, s3, s4, s5, s6⟩ := hSw; go_simp; try with_reducible rfl
  try simp only [Act.put, List.setIfInBounds_toArray, List.set_cons_zero, List.set_cons_succ]
  refine wpAnyH_take (i := 10) (oi := { dst := some 189, op := _, type := _, pos := _, after := _, guard := _ }) (v := ?_) rfl (by kernel_rfl) (by kernel_rfl) (by kernel_rfl) (fun _ _ _ h => h) (Or.inl ⟨by rfl, ?_⟩) (by assumption) ?_
  rotate_left 1
  · intro u hSw; obtain ⟨s1, s2, s3, s4, s5, s6⟩ := hSw; go_simp; try with_reducible rfl
  try simp only [Act.put, List.setIfInBounds_toArray, List.set_cons_zero, List.set_cons_succ]
  refine wpAnyH_take (i := 11) (oi := { dst := some 190, op := _, type := _, pos := _, after := _, guard := _ }) (v := ?_) rfl (by kernel_rfl) (by kernel_rfl) (by kernel_rfl) (fun _ _ _ h => h) (Or.inl ⟨by rfl, ?_⟩) (by assumption) ?_
  rotate_left 1
  · intro u hSw; obtain ⟨s1, s2, s3, s4, s5, s6⟩ := hSw; go_simp; try with_reducible rfl
  try simp only [Act.put, List.setIfInBounds_toArray, List.set_cons_zero, List.set_cons_succ]
  refine wpAnyH_take (i := 13) (oi := { dst := some 192, op := _, type := _, pos := _, after := _, guard := _ }) (v := ?_) rfl (by kernel_rfl) (by kernel_rfl) (by kernel_rfl) (fun _ _ _ h => h) (Or.inl ⟨by rfl, ?_⟩) (by assumption) ?_
  rotate_left 1
  · intro u hSw; obtain ⟨s1, s2, s3, s4, s5, s6⟩ := hSw; go_simp; try with_reducible rfl
  try simp only [Act.put, List.setIfInBounds_toArray, List.set_cons_zero, List.set_cons_succ]
  refine wpAnyH_take (i := 14) (oi := { dst := some 193, op := _, type := _, pos := _, after := _, guard := _ }) (v := ?_) rfl (by kernel_rfl) (by kernel_rfl) (by kernel_rfl) (fun _ _ _ h => h) (Or.inl ⟨by rfl, ?_⟩) (by assumption) ?_
  rotate_left 1
  · intro u hSw; obtain ⟨s1, s2, s3, s4, s5, s6⟩ := hSw; go_simp; try with_reducible rfl
  try simp only [Act.put, List.setIfInBounds_toArray, List.set_cons_zero, List.set_cons_succ]
  refine wpAnyH_take (i := 15) (oi := { dst := some 194, op := _, type := _, pos := _, after := _, guard := _ }) (v := ?_) rfl (by kernel_rfl) (by kernel_rfl) (by kernel_rfl) (fun _ _ _ h => h) (Or.inl ⟨by rfl, ?_⟩) (by assumption) ?_
  rotate_left 1
  · intro u hSw; obtain ⟨s1, s2, s3, s4, s5, s6⟩ := hSw; go_simp; try with_reducible rfl
  try simp only [Act.put, List.setIfInBounds_toArray, List.set_cons_zero, List.set_cons_succ]
  refine wpAnyH_take (i := 16) (oi := { dst := some 195, op := _, type := _, pos := _, after := _, guard := _ }) (v := ?_) rfl (by kernel_rfl) (by kernel_rfl) (by kernel_rfl) (fun _ _ _ h => h) (Or.inl ⟨by rfl, ?_⟩) (by assumption) ?_
  rotate_left 1
  · intro u hSw; obtain ⟨s1, s2, s3, s4, s5, s6⟩ := hSw; go_simp; try with_reducible rfl
  try simp only [Act.put, List.setIfInBounds_toArray, List.set_cons_zero, List.set_cons_succ]
  refine wpAnyH_take (i := 17) (oi := { dst := some 196, op := _, type := _, pos := _, after := _, guard := _ }) (v := ?_) rfl (by kernel_rfl) (by kernel_rfl) (by kernel_rfl) (fun _ _ _ h => h) (Or.inl ⟨by rfl, ?_⟩) (by assumption) ?_
  rotate_left 1
  · intro u hSw; obtain ⟨s1, s2, s3, s4, s5, s6⟩ := hSw; go_simp; try with_reducible rfl
  try simp only [Act.put, List.setIfInBounds_toArray, List.set_cons_zero, List.set_cons_succ]
  refine wpAnyH_take (i := 18) (oi := { dst := some 197, op := _, type := _, pos := _, after := _, guard := _ }) (v := ?_) rfl (by kernel_rfl) (by kernel_rfl) (by kernel_rfl) (fun _ _ _ h => h) (Or.inl ⟨by rfl, ?_⟩) (by assumption) ?_
  rotate_left 1
  · intro u hSw; obtain ⟨s1, s2, s3, s4, s5, s6⟩ := hSw; go_simp; try with_reducible rfl
  try simp only [Act.put, List.setIfInBounds_toArray, List.set_cons_zero, List.set_cons_succ]
  refine wpAnyH_take (i := 19) (oi := { dst := some 198, op := _, type := _, pos := _, after := _, guard := _ }) (v := ?_) rfl (by kernel_rfl) (by kernel_rfl) (by kernel_rfl) (fun _ _ _ h => h) (Or.inl ⟨by rfl, ?_⟩) (by assumption) ?_
  rotate_left 1
  · intro u hSw; obtain ⟨s1, s2, s3, s4, s5, s6⟩ := hSw; go_simp; try with_reducible rfl
  try simp only [Act.put, List.setIfInBounds_toArray, List.set_cons_zero, List.set_cons_succ]
  refine wpAnyH_take (i := 20) (oi := { dst := some 199, op := _, type := _, pos := _, after := _, guard := _ }) (v := ?_) rfl (by kernel_rfl) (by kernel_rfl) (by kernel_rfl) (fun _ _ _ h => h) (Or.inl ⟨by rfl, ?_⟩) (by assumption) ?_
  rotate_left 1
  · intro u hSw; obtain ⟨s1, s2, s3, s4, s5, s6⟩ := hSw; go_simp; try with_reducible rfl
  try simp only [Act.put, List.setIfInBounds_toArray, List.set_cons_zero, List.set_cons_succ]
  refine wpAnyH_take (i := 21) (oi := { dst := some 200, op := _, type := _, pos := _, after := _, guard := _ }) (v := ?_) rfl (by kernel_rfl) (by kernel_rfl) (by kernel_rfl) (fun _ _ _ h => h) (Or.inl ⟨by rfl, ?_⟩) (by assumption) ?_
  rotate_left 1
  · intro u hSw; obtain ⟨s1, s2, s3, s4, s5, s6⟩ := hSw; go_simp; try with_reducible rfl
  try simp only [Act.put, List.setIfInBounds_toArray, List.set_cons_zero, List.set_cons_succ]
  refine wpAnyH_take (i := 22) (oi := { dst := some 201, op := _, type := _, pos := _, after := _, guard := _ }) (v := ?_) rfl (by kernel_rfl) (by kernel_rfl) (by kernel_rfl) (fun _ _ _ h => h) (Or.inl ⟨by rfl, ?_⟩) (by assumption) ?_
  rotate_left 1
  · intro u hSw; obtain ⟨s1, s2, s3, s4, s5, s6⟩ := hSw; go_simp; try with_reducible rfl
  try simp only [Act.put, List.setIfInBounds_toArray, List.set_cons_zero, List.set_cons_succ]
  refine wpAnyH_take (i := 23) (oi := { dst := some 202, op := _, type := _, pos := _, after := _, guard := _ }) (v := ?_) rfl (by kernel_rfl) (by kernel_rfl) (by kernel_rfl) (fun _ _ _ h => h) (Or.inl ⟨by rfl, ?_⟩) (by assumption) ?_
  rotate_left 1
  · intro u hSw; obtain ⟨s1, s2, s3, s4, s5, s6⟩ := hSw; go_simp; try with_reducible rfl
  try simp only [Act.put, List.setIfInBounds_toArray, List.set_cons_zero, List.set_cons_succ]
  refine wpAnyH_take (i := 24) (oi := { dst := some 203, op := _, type := _, pos := _, after := _, guard := _ }) (v := ?_) rfl (by kernel_rfl) (by kernel_rfl) (by kernel_rfl) (fun _ _ _ h => h) (Or.inl ⟨by rfl, ?_⟩) (by assumption) ?_
  rotate_left 1
  · intro u hSw; obtain ⟨s1, s2, s3, s4, s5, s6⟩ := hSw; go_simp; try with_reducible rfl
  try simp only [Act.put, List.setIfInBounds_toArray, List.set_cons_zero, List.set_cons_succ]
  refine wpAnyH_ready (rs := [12]) (by kernel_rfl) (by simp) ?_
  refine AllReadyH.cons (o := { dst := some 191, op := _, type := _, pos := _, after := _, guard := _ }) rfl (fun K hK => ?_) AllReadyH.nil
  go_simp
  refine (jp_poke HD1.out.jg q.name hs q.n (IntKind.u8.wrap (q.bl : Int)) (by rw [IntKind.wrap_u8]; omega)).mono ?_
  rintro e w2 ⟨v, rfl, rfl, hj2, F2⟩
  have HD2 := hide2 (HD1.out.next hj2 F2)
  have HF2 := hide2 F2
  clear hj2 F2
  go_wp2_with fail
  refine hK.out _ _ (HD2.out.six) (fun hHeld => ?_)
  clear hK K
  try simp only [Act.put, List.setIfInBounds_toArray, List.set_cons_zero, List.set_cons_succ]
  refine wpAnyH_ready (rs := [25]) (by kernel_rfl) (by simp) ?_
  refine AllReadyH.cons (o := { dst := some 204, op := _, type := _, pos := _, after := _, guard := _ }) rfl (fun K hK => ?_) AllReadyH.nil
  go_simp
  refine (jr_poke HD2.out.jg q.name hs q.n (IntKind.u8.wrap (q.bl : Int)) (by rw [IntKind.wrap_u8]; omega)).mono ?_
  rintro e w3 ⟨v, rfl, rfl, hj3, F3⟩
  have HD3 := hide2 (HD2.out.next hj3 F3)
  have HF3 := hide2 F3
  clear hj3 F3
  go_wp2_with fail
  refine hK.out _ _ (HD3.out.six) (fun hHeld => ?_)
  clear hK K
  try simp only [Act.put, List.setIfInBounds_toArray, List.set_cons_zero, List.set_cons_succ]
  refine wpAnyH_take (i := 26) (oi := { dst := some 205, op := _, type := _, pos := _, after := _, guard := _ }) (v := ?_) rfl (by kernel_rfl) (by kernel_rfl) (by kernel_rfl) (fun _ _ _ h => h) (Or.inl ⟨by rfl, ?_⟩) (by assumption) ?_
  rotate_left 1
  · intro u hSw; obtain ⟨s1, s2, s3, s4, s5, s6⟩ := hSw; go_simp; try with_reducible rfl
  try simp only [Act.put, List.setIfInBounds_toArray, List.set_cons_zero, List.set_cons_succ]
  refine wpAnyH_take (i := 27) (oi := { dst := some 4, op := _, type := _, pos := _, after := _, guard := _ }) (v := ?_) rfl (by kernel_rfl) (by kernel_rfl) (by kernel_rfl) (fun _ _ _ h => h) (Or.inl ⟨by rfl, ?_⟩) (by assumption) ?_
  rotate_left 1
  · intro u hSw; obtain ⟨s1, s2, s3, s4, s5, s6⟩ := hSw; go_simp; try with_reducible rfl
  try simp only [Act.put, List.setIfInBounds_toArray, List.set_cons_zero, List.set_cons_succ]
  refine wpAnyH_done (by kernel_rfl) ?_ _
  refine NoPanic.normal ?_
  go_wp2
  go_ret
  refine ⟨rfl, d, r, _, _, _, HD3.out.jg.less (fun j e => .inl e), HD3.out.wx, ?_⟩
  refine (HF1.out.drewN 1).trans ((HF2.out.trans HF3.out (fun j hj => .inl hj)).mono (G := fun j => ¬ E j ∨ j = x) (fun j _ hj => .inl (fun e => hj (.inl e)))) (fun j hj => .inl hj)

set_option maxRecDepth 100000 in
set_option maxHeartbeats 4000000 in
theorem jd_cutAt (h : Jg w E d r P c o P c o) (hx : Wx w x d r) (hE : E x) (q : OpR) (hk : pk q.kind = 6) (hlo : -9223372036854775808 ≤ q.kind) (hhi : q.kind ≤ 9223372036854775807)  :
    Calls Try.prog 11 #[.pointer (some ⟨x, 0, none⟩), q.val] w fun e w' => e = .returned (.bool true) ∧ Dres w w' E x := by
  have D1 := Dy.start h hx hE q
  obtain ⟨b0, -⟩ := D1.bx.cells
  have hxl := hx.lt
  have HP := hide2 (pick_any q.kind (w.alloc (.cells #[.int .i64 q.kind, .string q.name, .string q.to, .slice q.bo q.bl q.bc, .int .i64 q.n, .int .i64 q.k1, .int .i64 q.k2, .int .i64 q.k3] 36)) hlo hhi)
  rw [hk] at HP
  have F1 : Fr (fun j => ¬ E j ∨ j = x) w (w.alloc (.cells #[.int .i64 q.kind, .string q.name, .string q.to, .slice q.bo q.bl q.bc, .int .i64 q.n, .int .i64 q.k1, .int .i64 q.k2, .int .i64 q.k3] 36)) := (Fr.refl _ w).alloc _
  obtain ⟨s1, s2, s3, s4, s5, s6⟩ := D1.six
  have hel : ∀ j, E j → j < w.heap.size := fun j e => by
    obtain ⟨⟨K, κ, ca, g1, g2, g3, g4, g5⟩, -, -⟩ := h
    exact (g5 j e).2
  unfold OpR.val
  generalize hW : w.alloc (.cells #[.int .i64 q.kind, .string q.name, .string q.to, .slice q.bo q.bl q.bc, .int .i64 q.n, .int .i64 q.k1, .int .i64 q.k2, .int .i64 q.k3] 36) = W at *
  go_enter Try.func11, Try.ntmps11
  go_wp2_with fail
  try rw [hW]
  refine HP.out.mono ?_
  rintro e w1 ⟨rfl, rfl⟩
  clear HP
  have HD1 := hide2 D1.drew
  have HF1 := hide2 F1
  have HEL := hide2 hel
  clear D1 F1 hel hW h hx
  go_wp2
  refine wp_region_noPanic ?_
  refine wp_region_held_drew (S := (fun u : World => u.cell? ⟨x, 0, none⟩ = some (.pointer (some ⟨d, 0, none⟩)) ∧ u.cell? ⟨x, 1, none⟩ = some (.pointer (some ⟨r, 0, none⟩)) ∧ u.cell? ⟨w.heap.size, 1, none⟩ = some (.string q.name) ∧ u.cell? ⟨w.heap.size, 2, none⟩ = some (.string q.to) ∧ u.cell? ⟨w.heap.size, 3, none⟩ = some (.slice q.bo q.bl q.bc) ∧ u.cell? ⟨w.heap.size, 4, none⟩ = some (.int .i64 q.n))) (by kernel_rfl) (⟨s1, s2, s3, s4, s5, s6⟩) (fun hHeld => ?_)
  refine wpAnyH_take (i := 0) (oi := { dst := some 163, op := _, type := _, pos := _, after := _, guard := _ }) (v := ?_) rfl (by kernel_rfl) (by kernel_rfl) (by kernel_rfl) (fun _ _ _ h => h) (Or.inl ⟨by rfl, ?_⟩) (by assumption) ?_
  rotate_left 1
  · intro u hSw; obtain ⟨s1, s2, s3, s4, s5, s6⟩ := hSw; go_simp; try with_reducible rfl
  try simp only [Act.put, List.setIfInBounds_toArray, List.set_cons_zero, List.set_cons_succ]
  refine wpAnyH_take (i := 1) (oi := { dst := some 164, op := _, type := _, pos := _, after := _, guard := _ }) (v := ?_) rfl (by kernel_rfl) (by kernel_rfl) (by kernel_rfl) (fun _ _ _ h => h) (Or.inl ⟨by rfl, ?_⟩) (by assumption) ?_
  rotate_left 1
  · intro u hSw; obtain ⟨s1, s2, s3, s4, s5, s6⟩ := hSw; go_simp; try with_reducible rfl
  try simp only [Act.put, List.setIfInBounds_toArray, List.set_cons_zero, List.set_cons_succ]
  refine wpAnyH_take (i := 2) (oi := { dst := some 165, op := _, type := _, pos := _, after := _, guard := _ }) (v := ?_) rfl (by kernel_rfl) (by kernel_rfl) (by kernel_rfl) (fun _ _ _ h => h) (Or.inl ⟨by rfl, ?_⟩) (by assumption) ?_
  rotate_left 1
  · intro u hSw; obtain ⟨s1, s2, s3, s4, s5, s6⟩ := hSw; go_simp; try with_reducible rfl
  try simp only [Act.put, List.setIfInBounds_toArray, List.set_cons_zero, List.set_cons_succ]
  refine wpAnyH_take (i := 3) (oi := { dst := some 166, op := _, type := _, pos := _, after := _, guard := _ }) (v := ?_) rfl (by kernel_rfl) (by kernel_rfl) (by kernel_rfl) (fun _ _ _ h => h) (Or.inl ⟨by rfl, ?_⟩) (by assumption) ?_
  rotate_left 1
  · intro u hSw; obtain ⟨s1, s2, s3, s4, s5, s6⟩ := hSw; go_simp; try with_reducible rfl
  try simp only [Act.put, List.setIfInBounds_toArray, List.set_cons_zero, List.set_cons_succ]
  refine wpAnyH_take (i := 4) (oi := { dst := some 167, op := _, type := _, pos := _, after := _, guard := _ }) (v := ?_) rfl (by kernel_rfl) (by kernel_rfl) (by kernel_rfl) (fun _ _ _ h => h) (Or.inl ⟨by rfl, ?_⟩) (by assumption) ?_
  rotate_left 1
  · intro u hSw; obtain ⟨s1, s2, s3, s4, s5, s6⟩ := hSw; go_simp; try with_reducible rfl
  try simp only [Act.put, List.setIfInBounds_toArray, List.set_cons_zero, List.set_cons_succ]
  refine wpAnyH_take (i := 5) (oi := { dst := some 168, op := _, type := _, pos := _, after := _, guard := _ }) (v := ?_) rfl (by kernel_rfl) (by kernel_rfl) (by kernel_rfl) (fun _ _ _ h => h) (Or.inl ⟨by rfl, ?_⟩) (by assumption) ?_
  rotate_left 1
  · intro u hSw; obtain ⟨s1, s2, s3, s4, s5, s6⟩ := hSw; go_simp; try with_reducible rfl
  try simp only [Act.put, List.setIfInBounds_toArray, List.set_cons_zero, List.set_cons_succ]
  refine wpAnyH_ready (rs := [6]) (by kernel_rfl) (by simp) ?_
  refine AllReadyH.cons (o := { dst := some 169, op := _, type := _, pos := _, after := _, guard := _ }) rfl (fun K hK => ?_) AllReadyH.nil
  go_simp
  refine (jp_cutAt HD1.out.jg q.n).mono ?_
  rintro e w2 ⟨v, rfl, rfl, hj2, F2⟩
  have HD2 := hide2 (HD1.out.next hj2 F2)
  have HF2 := hide2 F2
  clear hj2 F2
  go_wp2_with fail
  refine hK.out _ _ (HD2.out.six) (fun hHeld => ?_)
  clear hK K
  try simp only [Act.put, List.setIfInBounds_toArray, List.set_cons_zero, List.set_cons_succ]
  refine wpAnyH_done (by kernel_rfl) ?_ _
  refine NoPanic.normal ?_
  obtain ⟨s1, s2, s3, s4, s5, s6⟩ := HD2.out.six
  have HD2' := hide2 HD2.out.drew
  go_wp2
  refine wp_region_noPanic ?_
  refine wp_region_held_drew (S := (fun u : World => u.cell? ⟨x, 0, none⟩ = some (.pointer (some ⟨d, 0, none⟩)) ∧ u.cell? ⟨x, 1, none⟩ = some (.pointer (some ⟨r, 0, none⟩)) ∧ u.cell? ⟨w.heap.size, 1, none⟩ = some (.string q.name) ∧ u.cell? ⟨w.heap.size, 2, none⟩ = some (.string q.to) ∧ u.cell? ⟨w.heap.size, 3, none⟩ = some (.slice q.bo q.bl q.bc) ∧ u.cell? ⟨w.heap.size, 4, none⟩ = some (.int .i64 q.n))) (by kernel_rfl) (⟨s1, s2, s3, s4, s5, s6⟩) (fun hHeld => ?_)
  refine wpAnyH_take (i := 0) (oi := { dst := some 170, op := _, type := _, pos := _, after := _, guard := _ }) (v := ?_) rfl (by kernel_rfl) (by kernel_rfl) (by kernel_rfl) (fun _ _ _ h => h) (Or.inl ⟨by rfl, ?_⟩) (by assumption) ?_
  rotate_left 1
  · intro u hSw; obtain ⟨s1, s2, s3, s4, s5, s6⟩ := hSw; go_simp; try with_reducible rfl
  try simp only [Act.put, List.setIfInBounds_toArray, List.set_cons_zero, List.set_cons_succ]
  refine wpAnyH_take (i := 1) (oi := { dst := some 171, op := _, type := _, pos := _, after := _, guard := _ }) (v := ?_) rfl (by kernel_rfl) (by kernel_rfl) (by kernel_rfl) (fun _ _ _ h => h) (Or.inl ⟨by rfl, ?_⟩) (by assumption) ?_
  rotate_left 1
  · intro u hSw; obtain ⟨s1, s2, s3, s4, s5, s6⟩ := hSw; go_simp; try with_reducible rfl
  try simp only [Act.put, List.setIfInBounds_toArray, List.set_cons_zero, List.set_cons_succ]
  refine wpAnyH_take (i := 2) (oi := { dst := some 172, op := _, type := _, pos := _, after := _, guard := _ }) (v := ?_) rfl (by kernel_rfl) (by kernel_rfl) (by kernel_rfl) (fun _ _ _ h => h) (Or.inl ⟨by rfl, ?_⟩) (by assumption) ?_
  rotate_left 1
  · intro u hSw; obtain ⟨s1, s2, s3, s4, s5, s6⟩ := hSw; go_simp; try with_reducible rfl
  try simp only [Act.put, List.setIfInBounds_toArray, List.set_cons_zero, List.set_cons_succ]
  refine wpAnyH_take (i := 3) (oi := { dst := some 173, op := _, type := _, pos := _, after := _, guard := _ }) (v := ?_) rfl (by kernel_rfl) (by kernel_rfl) (by kernel_rfl) (fun _ _ _ h => h) (Or.inl ⟨by rfl, ?_⟩) (by assumption) ?_
  rotate_left 1
  · intro u hSw; obtain ⟨s1, s2, s3, s4, s5, s6⟩ := hSw; go_simp; try with_reducible rfl
  try simp only [Act.put, List.setIfInBounds_toArray, List.set_cons_zero, List.set_cons_succ]
  refine wpAnyH_take (i := 4) (oi := { dst := some 174, op := _, type := _, pos := _, after := _, guard := _ }) (v := ?_) rfl (by kernel_rfl) (by kernel_rfl) (by kernel_rfl) (fun _ _ _ h => h) (Or.inl ⟨by rfl, ?_⟩) (by assumption) ?_
  rotate_left 1
  · intro u hSw; obtain ⟨s1, s2, s3, s4, s5, s6⟩ := hSw; go_simp; try with_reducible rfl
  try simp only [Act.put, List.setIfInBounds_toArray, List.set_cons_zero, List.set_cons_succ]
  refine wpAnyH_take (i := 5) (oi := { dst := some 175, op := _, type := _, pos := _, after := _, guard := _ }) (v := ?_) rfl (by kernel_rfl) (by kernel_rfl) (by kernel_rfl) (fun _ _ _ h => h) (Or.inl ⟨by rfl, ?_⟩) (by assumption) ?_
  rotate_left 1
  · intro u hSw; obtain ⟨s1, s2, s3, s4, s5, s6⟩ := hSw; go_simp; try with_reducible rfl
  try simp only [Act.put, List.setIfInBounds_toArray, List.set_cons_zero, List.set_cons_succ]
  refine wpAnyH_ready (rs := [6]) (by kernel_rfl) (by simp) ?_
  refine AllReadyH.cons (o := { dst := some 176, op := _, type := _, pos := _, after := _, guard := _ }) rfl (fun K hK => ?_) AllReadyH.nil
  go_simp
  refine (jr_cutAt HD2'.out.jg q.n).mono ?_
  rintro e w3 ⟨v, rfl, rfl, hj3, F3⟩
  have HD3 := hide2 (HD2'.out.next hj3 F3)
  have HF3 := hide2 F3
  clear hj3 F3
  go_wp2_with fail
  refine hK.out _ _ (HD3.out.six) (fun hHeld => ?_)
  clear hK K
  try simp only [Act.put, List.setIfInBounds_toArray, List.set_cons_zero, List.set_cons_succ]
  refine wpAnyH_done (by kernel_rfl) ?_ _
  refine NoPanic.normal ?_
  go_wp2
  go_ret
  refine ⟨rfl, d, r, _, _, _, HD3.out.jg.less (fun j e => .inl e), HD3.out.wx, ?_⟩
  refine (HF1.out.drewN 1).trans (((HF2.out.drewN 1).trans HF3.out (fun j hj => .inl hj)).mono (G := fun j => ¬ E j ∨ j = x) (fun j _ hj => .inl (fun e => hj (.inl e)))) (fun j hj => .inl hj)
end
end Go.Proofs.Ytmggmnbialacbaa

/-
  'does' of the kind 1. (Printed by gen_dj5.py.)
-/
set_option linter.unusedVariables false
set_option linter.unusedSimpArgs false
namespace Go.Proofs.Ytmggmnbialacbaa
open Go.RowKit Go.Maps

theorem Dy.wide {w w' : World} {E : Nat → Prop} {x d r : Nat} {P : PD} {c : Int} {o : Bool} {Q : PD} {c' : Int} {o' : Bool} {y : Nat} {q : OpR} (h : Dy w E x d r P c o Q c' o' y q) (hb : Below w.heap.size w w') : Dy w' (fun j => E j ∨ w.heap.size ≤ j ∧ j < w'.heap.size) x d r P c o Q c' o' y q :=
  ⟨h.jg.keep (Fr.below hb) (fun j e => e), (hb.block x h.wx.lt).trans h.wx, (hb.block y (Array.getElem?_eq_some_iff.1 h.bx).1).trans h.bx, .inl h.ex, .inl h.ey⟩
theorem own_form {w : World} {base : Nat} {v : Value} {xs : List Int} (h : Own w base v xs) : ∃ ao cap, v = .slice ao xs.length cap := by
  rcases h.2 with ⟨rfl, h0⟩ | ⟨g, cap, cur, rfl, _⟩
  · exact ⟨none, 0, by rw [h0]⟩
  · exact ⟨_, cap, rfl⟩
theorem own_put {w : World} {base g cap k : Nat} {xs : List Int} (h : Own w base (.slice (some ⟨g, 0, none⟩) xs.length cap) xs) (y : Int) : Own (w.setCell ⟨g, k, none⟩ (.int .u8 y)) base (.slice (some ⟨g, 0, none⟩) xs.length cap) (xs.set k y) := by
  have := (World.ownsRow.stored h k (.int .u8 y)).1
  unfold Own
  rw [List.length_set]
  have e : bc (xs.set k y) = (bc xs).set k (.int .u8 y) := by simp [bc, List.map_set]
  rw [e]
  exact this
theorem own_cell {w : World} {base g cap k : Nat} {xs : List Int} (h : Own w base (.slice (some ⟨g, 0, none⟩) xs.length cap) xs) (hk : k < xs.length) : ∃ v, w.cell? ⟨g, k, none⟩ = some v ∧ w.frozen? ⟨g, k, none⟩ = false ∧ base ≤ g ∧ g < w.heap.size := by
  have h1 := World.ownsRow.cellAt h k (by omega)
  have hl : k < (bc xs).length := by rw [bc_length]; exact hk
  exact ⟨(bc xs)[k], h1.trans (List.getElem?_eq_getElem hl), World.ownsRow.frozenAt h k, (World.ownsRow.lt h g rfl).1, (World.ownsRow.lt h g rfl).2⟩

section
variable {w : World} {E : Nat → Prop} {x d r : Nat} {P : PD} {c : Int} {o : Bool}

set_option maxRecDepth 100000 in
set_option maxHeartbeats 8000000 in
theorem jd_read (h : Jg w E d r P c o P c o) (hx : Wx w x d r) (hE : E x) (q : OpR) (hk : pk q.kind = 1) (hlo : -9223372036854775808 ≤ q.kind) (hhi : q.kind ≤ 9223372036854775807) (hs : q.name.size ≤ maxLen) :
    Calls Try.prog 11 #[.pointer (some ⟨x, 0, none⟩), q.val] w fun e w' => e = .returned (.bool true) ∧ Dres w w' E x := by
  have D1 := Dy.start h hx hE q
  obtain ⟨b0, -⟩ := D1.bx.cells
  have hxl := hx.lt
  have HP := hide2 (pick_any q.kind (w.alloc (.cells #[.int .i64 q.kind, .string q.name, .string q.to, .slice q.bo q.bl q.bc, .int .i64 q.n, .int .i64 q.k1, .int .i64 q.k2, .int .i64 q.k3] 36)) hlo hhi)
  rw [hk] at HP
  have F1 : Fr (fun j => ¬ E j ∨ j = x) w (w.alloc (.cells #[.int .i64 q.kind, .string q.name, .string q.to, .slice q.bo q.bl q.bc, .int .i64 q.n, .int .i64 q.k1, .int .i64 q.k2, .int .i64 q.k3] 36)) := (Fr.refl _ w).alloc _
  obtain ⟨s1, s2, s3, s4, s5, s6⟩ := D1.six
  have hel : ∀ j, E j → j < w.heap.size := fun j e => by
    obtain ⟨⟨K, κ, ca, g1, g2, g3, g4, g5⟩, -, -⟩ := h
    exact (g5 j e).2
  have hjp : ∀ (u : World) (E' : Nat → Prop), Jg u E' d r P c o P c o → Calls Try.prog 22 #[.pointer (some ⟨d, 0, none⟩), .string q.name] u fun e w' => ∃ v, e = .returned v ∧ (∃ uu, v = .tuple #[uu, .int .i64 (if o then 24 else (Land.pread P q.name).1)] ∧ Own w' u.heap.size uu (if o then [] else (Land.pread P q.name).2)) ∧ Below u.heap.size u w' := fun u E' hj => jp_read hj q.name hs
  have hjr : ∀ (u : World) (E' : Nat → Prop), Jg u E' d r P c o P c o → Calls Try.prog 30 #[.pointer (some ⟨r, 0, none⟩), .string q.name] u fun e w' => ∃ v, e = .returned v ∧ (∃ ao len cap, v = .tuple #[.slice ao len cap, .int .i64 (if o then 24 else (Land.pread P q.name).1)] ∧ Sl u ao len cap (if o then [] else (Land.pread P q.name).2)) ∧ w' = u := fun u E' hj => jr_read hj q.name hs
  generalize (if o then [] else (Land.pread P q.name).2) = bs at hjp hjr
  generalize (if o then 24 else (Land.pread P q.name).1) = ev at hjp hjr
  have HJP := hide2 hjp
  have HJR := hide2 hjr
  clear hjp hjr
  unfold OpR.val
  generalize hW : w.alloc (.cells #[.int .i64 q.kind, .string q.name, .string q.to, .slice q.bo q.bl q.bc, .int .i64 q.n, .int .i64 q.k1, .int .i64 q.k2, .int .i64 q.k3] 36) = W at *
  go_enter Try.func11, Try.ntmps11
  go_wp2_with fail
  try rw [hW]
  refine HP.out.mono ?_
  rintro e w1 ⟨rfl, rfl⟩
  clear HP
  have HD1 := hide2 D1.drew
  have HF1 := hide2 F1
  have HEL := hide2 hel
  clear D1 F1 hel hW h hx
  go_wp2
  refine wp_region_noPanic ?_
  refine wp_region_held_drew (S := (fun u : World => u.cell? ⟨x, 0, none⟩ = some (.pointer (some ⟨d, 0, none⟩)) ∧ u.cell? ⟨x, 1, none⟩ = some (.pointer (some ⟨r, 0, none⟩)) ∧ u.cell? ⟨w.heap.size, 1, none⟩ = some (.string q.name) ∧ u.cell? ⟨w.heap.size, 2, none⟩ = some (.string q.to) ∧ u.cell? ⟨w.heap.size, 3, none⟩ = some (.slice q.bo q.bl q.bc) ∧ u.cell? ⟨w.heap.size, 4, none⟩ = some (.int .i64 q.n))) (by kernel_rfl) (⟨s1, s2, s3, s4, s5, s6⟩) (fun hHeld => ?_)
  refine wpAnyH_take (i := 0) (oi := { dst := some 54, op := _, type := _, pos := _, after := _, guard := _ }) (v := ?_) rfl (by kernel_rfl) (by kernel_rfl) (by kernel_rfl) (fun _ _ _ h => h) (Or.inl ⟨by rfl, ?_⟩) (by assumption) ?_
  rotate_left 1
  · intro u hSw; obtain ⟨s1, s2, s3, s4, s5, s6⟩ := hSw; go_simp; try with_reducible rfl
  try simp only [Act.put, List.setIfInBounds_toArray, List.set_cons_zero, List.set_cons_succ]
  refine wpAnyH_take (i := 1) (oi := { dst := some 55, op := _, type := _, pos := _, after := _, guard := _ }) (v := ?_) rfl (by kernel_rfl) (by kernel_rfl) (by kernel_rfl) (fun _ _ _ h => h) (Or.inl ⟨by rfl, ?_⟩) (by assumption) ?_
  rotate_left 1
  · intro u hSw; obtain ⟨s1, s2, s3, s4, s5, s6⟩ := hSw; go_simp; try with_reducible rfl
  try simp only [Act.put, List.setIfInBounds_toArray, List.set_cons_zero, List.set_cons_succ]
  refine wpAnyH_take (i := 2) (oi := { dst := some 56, op := _, type := _, pos := _, after := _, guard := _ }) (v := ?_) rfl (by kernel_rfl) (by kernel_rfl) (by kernel_rfl) (fun _ _ _ h => h) (Or.inl ⟨by rfl, ?_⟩) (by assumption) ?_
  rotate_left 1
  · intro u hSw; obtain ⟨s1, s2, s3, s4, s5, s6⟩ := hSw; go_simp; try with_reducible rfl
  try simp only [Act.put, List.setIfInBounds_toArray, List.set_cons_zero, List.set_cons_succ]
  refine wpAnyH_take (i := 3) (oi := { dst := some 57, op := _, type := _, pos := _, after := _, guard := _ }) (v := ?_) rfl (by kernel_rfl) (by kernel_rfl) (by kernel_rfl) (fun _ _ _ h => h) (Or.inl ⟨by rfl, ?_⟩) (by assumption) ?_
  rotate_left 1
  · intro u hSw; obtain ⟨s1, s2, s3, s4, s5, s6⟩ := hSw; go_simp; try with_reducible rfl
  try simp only [Act.put, List.setIfInBounds_toArray, List.set_cons_zero, List.set_cons_succ]
  refine wpAnyH_take (i := 4) (oi := { dst := some 58, op := _, type := _, pos := _, after := _, guard := _ }) (v := ?_) rfl (by kernel_rfl) (by kernel_rfl) (by kernel_rfl) (fun _ _ _ h => h) (Or.inl ⟨by rfl, ?_⟩) (by assumption) ?_
  rotate_left 1
  · intro u hSw; obtain ⟨s1, s2, s3, s4, s5, s6⟩ := hSw; go_simp; try with_reducible rfl
  try simp only [Act.put, List.setIfInBounds_toArray, List.set_cons_zero, List.set_cons_succ]
  refine wpAnyH_take (i := 5) (oi := { dst := some 59, op := _, type := _, pos := _, after := _, guard := _ }) (v := ?_) rfl (by kernel_rfl) (by kernel_rfl) (by kernel_rfl) (fun _ _ _ h => h) (Or.inl ⟨by rfl, ?_⟩) (by assumption) ?_
  rotate_left 1
  · intro u hSw; obtain ⟨s1, s2, s3, s4, s5, s6⟩ := hSw; go_simp; try with_reducible rfl
  try simp only [Act.put, List.setIfInBounds_toArray, List.set_cons_zero, List.set_cons_succ]
  refine wpAnyH_ready (rs := [6]) (by kernel_rfl) (by simp) ?_
  refine AllReadyH.cons (o := { dst := some 60, op := _, type := _, pos := _, after := _, guard := _ }) rfl (fun K hK => ?_) AllReadyH.nil
  go_simp
  refine (HJP.out _ _ HD1.out.jg).mono ?_
  rintro e w2 ⟨v, rfl, ⟨u, rfl, hO⟩, hB2⟩
  obtain ⟨au, cu, eu⟩ := own_form hO
  subst eu
  have HD2 := hide2 (HD1.out.wide hB2)
  have HO := hide2 hO
  have HB2 := hide2 hB2
  clear hO hB2
  go_wp2_with fail
  refine hK.out _ _ (HD2.out.six) (fun hHeld => ?_)
  clear hK K
  try simp only [Act.put, List.setIfInBounds_toArray, List.set_cons_zero, List.set_cons_succ]
  refine wpAnyH_take (i := 7) (oi := { dst := some 53, op := _, type := _, pos := _, after := _, guard := _ }) (v := ?_) rfl (by kernel_rfl) (by kernel_rfl) (by kernel_rfl) (fun _ _ _ h => h) (Or.inl ⟨by rfl, ?_⟩) (by assumption) ?_
  rotate_left 1
  · intro u hSw; obtain ⟨s1, s2, s3, s4, s5, s6⟩ := hSw; go_simp; try with_reducible rfl
  try simp only [Act.put, List.setIfInBounds_toArray, List.set_cons_zero, List.set_cons_succ]
  refine wpAnyH_take (i := 8) (oi := { dst := some 61, op := _, type := _, pos := _, after := _, guard := _ }) (v := ?_) rfl (by kernel_rfl) (by kernel_rfl) (by kernel_rfl) (fun _ _ _ h => h) (Or.inl ⟨by rfl, ?_⟩) (by assumption) ?_
  rotate_left 1
  · intro u hSw; obtain ⟨s1, s2, s3, s4, s5, s6⟩ := hSw; go_simp; try with_reducible rfl
  try simp only [Act.put, List.setIfInBounds_toArray, List.set_cons_zero, List.set_cons_succ]
  refine wpAnyH_take (i := 9) (oi := { dst := some 62, op := _, type := _, pos := _, after := _, guard := _ }) (v := ?_) rfl (by kernel_rfl) (by kernel_rfl) (by kernel_rfl) (fun _ _ _ h => h) (Or.inl ⟨by rfl, ?_⟩) (by assumption) ?_
  rotate_left 1
  · intro u hSw; obtain ⟨s1, s2, s3, s4, s5, s6⟩ := hSw; go_simp; try with_reducible rfl
  try simp only [Act.put, List.setIfInBounds_toArray, List.set_cons_zero, List.set_cons_succ]
  refine wpAnyH_take (i := 10) (oi := { dst := some 8, op := _, type := _, pos := _, after := _, guard := _ }) (v := ?_) rfl (by kernel_rfl) (by kernel_rfl) (by kernel_rfl) (fun _ _ _ h => h) (Or.inl ⟨by rfl, ?_⟩) (by assumption) ?_
  rotate_left 1
  · intro u hSw; obtain ⟨s1, s2, s3, s4, s5, s6⟩ := hSw; go_simp; try with_reducible rfl
  try simp only [Act.put, List.setIfInBounds_toArray, List.set_cons_zero, List.set_cons_succ]
  refine wpAnyH_take (i := 11) (oi := { dst := some 9, op := _, type := _, pos := _, after := _, guard := _ }) (v := ?_) rfl (by kernel_rfl) (by kernel_rfl) (by kernel_rfl) (fun _ _ _ h => h) (Or.inl ⟨by rfl, ?_⟩) (by assumption) ?_
  rotate_left 1
  · intro u hSw; obtain ⟨s1, s2, s3, s4, s5, s6⟩ := hSw; go_simp; try with_reducible rfl
  try simp only [Act.put, List.setIfInBounds_toArray, List.set_cons_zero, List.set_cons_succ]
  refine wpAnyH_done (by kernel_rfl) ?_ _
  refine NoPanic.normal ?_
  obtain ⟨s1, s2, s3, s4, s5, s6⟩ := HD2.out.six
  have HD2' := hide2 HD2.out.drew
  go_wp2
  refine wp_region_noPanic ?_
  refine wp_region_held_drew (S := (fun u : World => u.cell? ⟨x, 0, none⟩ = some (.pointer (some ⟨d, 0, none⟩)) ∧ u.cell? ⟨x, 1, none⟩ = some (.pointer (some ⟨r, 0, none⟩)) ∧ u.cell? ⟨w.heap.size, 1, none⟩ = some (.string q.name) ∧ u.cell? ⟨w.heap.size, 2, none⟩ = some (.string q.to) ∧ u.cell? ⟨w.heap.size, 3, none⟩ = some (.slice q.bo q.bl q.bc) ∧ u.cell? ⟨w.heap.size, 4, none⟩ = some (.int .i64 q.n))) (by kernel_rfl) (⟨s1, s2, s3, s4, s5, s6⟩) (fun hHeld => ?_)
  refine wpAnyH_take (i := 0) (oi := { dst := some 64, op := _, type := _, pos := _, after := _, guard := _ }) (v := ?_) rfl (by kernel_rfl) (by kernel_rfl) (by kernel_rfl) (fun _ _ _ h => h) (Or.inl ⟨by rfl, ?_⟩) (by assumption) ?_
  rotate_left 1
  · intro u hSw; obtain ⟨s1, s2, s3, s4, s5, s6⟩ := hSw; go_simp; try with_reducible rfl
  try simp only [Act.put, List.setIfInBounds_toArray, List.set_cons_zero, List.set_cons_succ]
  refine wpAnyH_take (i := 1) (oi := { dst := some 65, op := _, type := _, pos := _, after := _, guard := _ }) (v := ?_) rfl (by kernel_rfl) (by kernel_rfl) (by kernel_rfl) (fun _ _ _ h => h) (Or.inl ⟨by rfl, ?_⟩) (by assumption) ?_
  rotate_left 1
  · intro u hSw; obtain ⟨s1, s2, s3, s4, s5, s6⟩ := hSw; go_simp; try with_reducible rfl
  try simp only [Act.put, List.setIfInBounds_toArray, List.set_cons_zero, List.set_cons_succ]
  refine wpAnyH_take (i := 2) (oi := { dst := some 66, op := _, type := _, pos := _, after := _, guard := _ }) (v := ?_) rfl (by kernel_rfl) (by kernel_rfl) (by kernel_rfl) (fun _ _ _ h => h) (Or.inl ⟨by rfl, ?_⟩) (by assumption) ?_
  rotate_left 1
  · intro u hSw; obtain ⟨s1, s2, s3, s4, s5, s6⟩ := hSw; go_simp; try with_reducible rfl
  try simp only [Act.put, List.setIfInBounds_toArray, List.set_cons_zero, List.set_cons_succ]
  refine wpAnyH_take (i := 3) (oi := { dst := some 67, op := _, type := _, pos := _, after := _, guard := _ }) (v := ?_) rfl (by kernel_rfl) (by kernel_rfl) (by kernel_rfl) (fun _ _ _ h => h) (Or.inl ⟨by rfl, ?_⟩) (by assumption) ?_
  rotate_left 1
  · intro u hSw; obtain ⟨s1, s2, s3, s4, s5, s6⟩ := hSw; go_simp; try with_reducible rfl
  try simp only [Act.put, List.setIfInBounds_toArray, List.set_cons_zero, List.set_cons_succ]
  refine wpAnyH_take (i := 4) (oi := { dst := some 68, op := _, type := _, pos := _, after := _, guard := _ }) (v := ?_) rfl (by kernel_rfl) (by kernel_rfl) (by kernel_rfl) (fun _ _ _ h => h) (Or.inl ⟨by rfl, ?_⟩) (by assumption) ?_
  rotate_left 1
  · intro u hSw; obtain ⟨s1, s2, s3, s4, s5, s6⟩ := hSw; go_simp; try with_reducible rfl
  try simp only [Act.put, List.setIfInBounds_toArray, List.set_cons_zero, List.set_cons_succ]
  refine wpAnyH_take (i := 5) (oi := { dst := some 69, op := _, type := _, pos := _, after := _, guard := _ }) (v := ?_) rfl (by kernel_rfl) (by kernel_rfl) (by kernel_rfl) (fun _ _ _ h => h) (Or.inl ⟨by rfl, ?_⟩) (by assumption) ?_
  rotate_left 1
  · intro u hSw; obtain ⟨s1, s2, s3, s4, s5, s6⟩ := hSw; go_simp; try with_reducible rfl
  try simp only [Act.put, List.setIfInBounds_toArray, List.set_cons_zero, List.set_cons_succ]
  refine wpAnyH_ready (rs := [6]) (by kernel_rfl) (by simp) ?_
  refine AllReadyH.cons (o := { dst := some 70, op := _, type := _, pos := _, after := _, guard := _ }) rfl (fun K hK => ?_) AllReadyH.nil
  go_simp
  refine (HJR.out _ _ HD2'.out.jg).mono ?_
  rintro e w3 ⟨v, rfl, ⟨ac, lc, cc, rfl, hSl⟩, rfl⟩
  have HSl := hide2 hSl
  clear hSl
  go_wp2_with fail
  refine hK.out _ _ (HD2'.out.six) (fun hHeld => ?_)
  clear hK K
  try simp only [Act.put, List.setIfInBounds_toArray, List.set_cons_zero, List.set_cons_succ]
  refine wpAnyH_take (i := 7) (oi := { dst := some 63, op := _, type := _, pos := _, after := _, guard := _ }) (v := ?_) rfl (by kernel_rfl) (by kernel_rfl) (by kernel_rfl) (fun _ _ _ h => h) (Or.inl ⟨by rfl, ?_⟩) (by assumption) ?_
  rotate_left 1
  · intro u hSw; obtain ⟨s1, s2, s3, s4, s5, s6⟩ := hSw; go_simp; try with_reducible rfl
  try simp only [Act.put, List.setIfInBounds_toArray, List.set_cons_zero, List.set_cons_succ]
  refine wpAnyH_take (i := 8) (oi := { dst := some 71, op := _, type := _, pos := _, after := _, guard := _ }) (v := ?_) rfl (by kernel_rfl) (by kernel_rfl) (by kernel_rfl) (fun _ _ _ h => h) (Or.inl ⟨by rfl, ?_⟩) (by assumption) ?_
  rotate_left 1
  · intro u hSw; obtain ⟨s1, s2, s3, s4, s5, s6⟩ := hSw; go_simp; try with_reducible rfl
  try simp only [Act.put, List.setIfInBounds_toArray, List.set_cons_zero, List.set_cons_succ]
  refine wpAnyH_take (i := 9) (oi := { dst := some 72, op := _, type := _, pos := _, after := _, guard := _ }) (v := ?_) rfl (by kernel_rfl) (by kernel_rfl) (by kernel_rfl) (fun _ _ _ h => h) (Or.inl ⟨by rfl, ?_⟩) (by assumption) ?_
  rotate_left 1
  · intro u hSw; obtain ⟨s1, s2, s3, s4, s5, s6⟩ := hSw; go_simp; try with_reducible rfl
  try simp only [Act.put, List.setIfInBounds_toArray, List.set_cons_zero, List.set_cons_succ]
  refine wpAnyH_take (i := 10) (oi := { dst := some 10, op := _, type := _, pos := _, after := _, guard := _ }) (v := ?_) rfl (by kernel_rfl) (by kernel_rfl) (by kernel_rfl) (fun _ _ _ h => h) (Or.inl ⟨by rfl, ?_⟩) (by assumption) ?_
  rotate_left 1
  · intro u hSw; obtain ⟨s1, s2, s3, s4, s5, s6⟩ := hSw; go_simp; try with_reducible rfl
  try simp only [Act.put, List.setIfInBounds_toArray, List.set_cons_zero, List.set_cons_succ]
  refine wpAnyH_take (i := 11) (oi := { dst := some 11, op := _, type := _, pos := _, after := _, guard := _ }) (v := ?_) rfl (by kernel_rfl) (by kernel_rfl) (by kernel_rfl) (fun _ _ _ h => h) (Or.inl ⟨by rfl, ?_⟩) (by assumption) ?_
  rotate_left 1
  · intro u hSw; obtain ⟨s1, s2, s3, s4, s5, s6⟩ := hSw; go_simp; try with_reducible rfl
  try simp only [Act.put, List.setIfInBounds_toArray, List.set_cons_zero, List.set_cons_succ]
  refine wpAnyH_done (by kernel_rfl) ?_ _
  refine NoPanic.normal ?_
  have hbyt := HSl.out.2.2.2.1
  have hsz1 := HB2.out.size
  have HF0 : Hid (Fr (fun j => ¬ E j ∨ j = x) w w2.drew) := hide2 (((HF1.out.drewN 1).trans (G := fun _ => False) (Fr.below HB2.out) (fun j hj => hj.elim)).drewN 1)
  have HOd : Hid (Own w2.drew w1.drew.heap.size (.slice au bs.length cu) bs) := hide2 (row_any HO.out fun j e => rfl)
  obtain ⟨ao9, cap9, e9, hs9, -⟩ := Own.sl HOd.out hbyt
  simp only [Value.slice.injEq] at e9
  obtain ⟨rfl, -, rfl⟩ := e9
  have hstr1 := hs9.str 32 Try.underlying32 Try.underlying5 Try.underlying9
  have hstr2 := HSl.out.str 32 Try.underlying32 Try.underlying5 Try.underlying9
  have hml := hs9.2.1
  have hml2 := hs9.2.2.1
  unfold maxLen at hml2
  have hJ0 := HD2'.out.jg
  have hWx0 := HD2'.out.wx
  have HJ0 := hide2 hJ0
  have HWx0 := hide2 hWx0
  have hge : w.heap.size ≤ w1.drew.heap.size := HF1.out.size
  have HBE : Hid (∀ j, E j → j < w.heap.size) := HEL
  obtain ⟨L, hL⟩ : ∃ L, L = bs.length := ⟨_, rfl⟩
  rw [← hL] at hstr1 hml
  have HLL := hide2 hL
  have HO1 : Hid (∃ zs : List Int, zs.length = L ∧ Own w2.drew w1.drew.heap.size (.slice au L cu) zs) := hide2 ⟨bs, hL.symm, by rw [hL]; exact HOd.out⟩
  simp only [← hL]
  clear hJ0 hWx0 hs9 hbyt HOd HO HSl HD1 HD2 hL
  generalize strOfNums bs = st at *
  have hse : (st.toList == st.toList) = true := by simp
  go_wp2
  go_loopw [13] (fun i wr => ∃ k : Nat, k ≤ L ∧ i = .int .i64 k ∧ (∃ zs : List Int, zs.length = L ∧ Own wr w1.drew.heap.size (.slice au L cu) zs) ∧ Jg wr (fun j => ((E j ∨ j = w.heap.size) ∨ w1.drew.heap.size ≤ j ∧ j < w2.heap.size)) d r P c o P c o ∧ Wx wr x d r ∧ Fr (fun j => ¬ E j ∨ j = x) w wr ∧ wr.heap.size = w2.heap.size) (fun i _ => L - (intOf i).toNat)
  case atStart => exact ⟨0, by omega, rfl, HO1.out, HJ0.out, HWx0.out, HF0.out, rfl⟩
  case round =>
    clear HJ0 HWx0 HF0 HO1 s1 s2 s3 s4 s5 s6
    obtain ⟨k, hk, rfl, ⟨zs, hz1, hz2⟩, hJ, hWx, hF, hsz⟩ := hrel
    have HSZ := hide2 hsz
    clear hsz
    by_cases hkL : k < L
    · subst hz1
      obtain ⟨g, cg, eg⟩ := Go.Joins.ownsRow_form hz2 (by omega)
      simp only [Value.slice.injEq] at eg
      obtain ⟨rfl, -, rfl⟩ := eg
      obtain ⟨v0, c0, f0, hg1, hg2⟩ := own_cell hz2 hkL
      have hO2 := own_put (k := k) hz2 78
      have hJ2 : Jg (wr.setCell ⟨g, k, none⟩ (.int .u8 78)) (fun j => ((E j ∨ j = w.heap.size) ∨ w1.drew.heap.size ≤ j ∧ j < w2.heap.size)) d r P c o P c o := hJ.keep ((Fr.refl _ wr).setCell (p := ⟨g, k, none⟩) (.inl (.inr ⟨hg1, by show g < w2.heap.size; have := HSZ.out; omega⟩)) _) (fun j e => .inl e)
      have hgx : g ≠ x := by omega
      have hWx2 : Wx (wr.setCell ⟨g, k, none⟩ (.int .u8 78)) x d r := (Below.heap_setCell _ _ _ _ (by simpa using Ne.symm hgx)).trans hWx
      have hF2 := hF.setCell (p := ⟨g, k, none⟩) (.inr (by show w.heap.size ≤ g; omega)) (.int .u8 78)
      have HX := hide2 (And.intro (show ∃ zs' : List Int, zs'.length = zs.length ∧ Own (wr.setCell ⟨g, k, none⟩ (.int .u8 78)) w1.drew.heap.size (.slice (some ⟨g, 0, none⟩) zs.length cu) zs' from ⟨_, List.length_set, hO2⟩) (And.intro hJ2 (And.intro hWx2 (And.intro hF2 (show (wr.setCell ⟨g, k, none⟩ (.int .u8 78)).heap.size = w2.heap.size by rw [← HSZ.out]; simp)))))
      have hkL2 : (k : Int) < (zs.length : Int) := by omega
      clear hz2 hO2 hJ hJ2 hWx hWx2 hF hF2
      go_wp2
      go_roundw
      case rel => exact ⟨k + 1, by omega, by go_num, HX.out⟩
      case measure => simp [intOf]; omega
    · obtain rfl : L = k := by omega
      have HX := hide2 (And.intro (hJ.less (E' := E) (fun j e => .inl (.inl e))) (And.intro hWx hF))
      clear hz2 hJ hWx hF
      go_wp2
      go_ret
      exact ⟨rfl, d, r, _, _, _, HX.out⟩
end
end Go.Proofs.Ytmggmnbialacbaa

/-
  'does' of the kind 0. (Printed by gen_dj6.py.)
-/
set_option linter.unusedVariables false
set_option linter.unusedSimpArgs false
namespace Go.Proofs.Ytmggmnbialacbaa
open Go.RowKit Go.Maps

theorem wpList_append_eq {P : Program} {w : World} {ops : Array Oper} {rest : List Oper} {o : Oper} {a : Act} {Q : Exit → Act → World → Prop} (hgd : o.guard = none) (s x : Operand) (t : TypeId)
    (ho : o.op = .call { callee := .builtin .append, args := #[s, x], argTypes := #[t, t] }) (v xv v' : Value) (w' : World) (hs : a.eval s = v) (hx : a.eval x = xv)
    (hr : ∀ ty, (Builtin.append_ #[t, t] ty #[v, xv]).run P w = .ok v' w') (h : wpList P ops Q rest (a.put o.dst v') w') : wpList P ops Q (o :: rest) a w := by
  refine wpList_plain hgd fun K hK => ?_
  unfold Oper.wp
  simp [execOp, ho, resolve, invoke, builtin, hs, hx, hr, Result.andThen]
  exact hK _ _ h
theorem infoY : (Try.prog.info? 5).map (fun i => (i.zero, i.size, i.bytes)) = some (some (.int .u8 0), 1, 1) := by kernel_rfl
/-- append([]byte{}, b...): bytes of one's own. -/
theorem copy_bytes {u : World} {len cap : Nat} {ao : Option Addr} {xs : List Int} (hx : Sl u ao len cap xs) (hl : len ≤ 140737488351232) :
    ∃ v' w', (∀ ty, (Builtin.append_ #[32, 32] ty #[.slice (some ⟨u.heap.size, 0, none⟩) 0 0, .slice ao len cap]).run Try.prog (u.alloc (.cells #[] 5)) = .ok v' w') ∧ Own w' u.heap.size v' xs ∧ Below u.heap.size u w' := by
  obtain ⟨i0, hi0, z0, z1, z2⟩ := info_parts infoY
  have hown : (u.alloc (.cells #[] 5)).ownsRow u.heap.size 5 1 (.slice (some ⟨u.heap.size, 0, none⟩) 0 0) 0 [] :=
    ⟨rfl, .inr ⟨u.heap.size, 0, #[], rfl, Nat.le_refl _, heap_alloc_new _ _, Nat.le_refl _, Nat.zero_le _, rfl, rfl⟩⟩
  have hB0 : Below u.heap.size u (u.alloc (.cells #[] 5)) := (Below.refl _ u).alloc (Nat.le_refl _) _
  obtain ⟨h1, h2, h3, h4, h5, h6⟩ := hx.below hB0
  cases ao with
  | none =>
    obtain ⟨rfl, rfl⟩ := h5 rfl
    obtain rfl : xs = [] := List.eq_nil_of_length_eq_zero h1
    exact ⟨_, _, fun ty => run_append_owned_none (P := Try.prog) _ u.heap.size 32 ty 5 i0 1 Try.underlying32 hi0 _ 0 [] hown, hown, hB0⟩
  | some a =>
    have hnews : ∀ j w0, (bc xs)[j]? = some w0 → (u.alloc (.cells #[] 5)).cell? (a.add j) = some w0 := fun j w0 hj => by
      obtain ⟨hj1, rfl⟩ := bc_get xs j w0 hj
      obtain ⟨b, off, e, hbl, hc⟩ := h6 (by omega)
      obtain rfl : a = ⟨b, off, none⟩ := Option.some.inj e
      rw [addr_add]
      exact hc j (by omega)
    have key := fun ty => run_append_own_at (P := Try.prog) (u.alloc (.cells #[] 5)) u.heap.size 32 ty 5 i0 (.int .u8 0) 1 1 Try.underlying32 hi0 z0 z1 z2 rfl (by decide) (.slice (some ⟨u.heap.size, 0, none⟩) 0 0) 0 [] hown a len cap (bc xs) (by rw [bc_length, h1, Nat.mul_one]) hnews (bc_one xs) (by unfold maxLen; omega) (by omega) (by simp)
    obtain ⟨v', w', g1, g2, g3, g4, g5⟩ := key 0
    refine ⟨v', w', fun ty => by rw [← g1]; rfl, ?_, ?_⟩
    · have e : 0 + len = xs.length := by omega
      rw [e, List.nil_append] at g2
      exact g2
    · refine hB0.trans ((Fr.grown (F := fun j => u.heap.size ≤ j) g3 (fun j e => ?_)).to (fun j hj => by omega) (by simp))
      have : some u.heap.size = some j := e
      have := Option.some.inj this
      omega
theorem Sl.frX {X : Nat → Prop} {w w' : World} {ao : Option Addr} {len cap : Nat} {xs : List Int} (h : Sl w ao len cap xs) (hF : Fr X w w') (hX : 0 < len → ∀ b off, ao = some ⟨b, off, none⟩ → ¬ X b) : Sl w' ao len cap xs := by
  obtain ⟨h1, h2, h3, h4, h5, h6⟩ := h
  refine ⟨h1, h2, h3, h4, h5, fun hl => ?_⟩
  obtain ⟨b, off, e, hb, hc⟩ := h6 hl
  exact ⟨b, off, e, Nat.lt_of_lt_of_le hb hF.size, fun i hi => (hF.cell (p := ⟨b, off + i, none⟩) hb (hX hl b off e)).trans (hc i hi)⟩

section
variable {w : World} {E : Nat → Prop} {x d r : Nat} {P : PD} {c : Int} {o : Bool}

set_option maxRecDepth 100000 in
set_option maxHeartbeats 8000000 in
theorem jd_append (h : Jg w E d r P c o P c o) (hx : Wx w x d r) (hE : E x) (q : OpR) (hk : pk q.kind = 0) (hlo : -9223372036854775808 ≤ q.kind) (hhi : q.kind ≤ 9223372036854775807) (hs : q.name.size ≤ maxLen) (hsl : Sl w q.bo q.bl q.bc q.bs) (hbl : q.bl ≤ 140737488351232) (hqe : 0 < q.bl → ∀ b off, q.bo = some ⟨b, off, none⟩ → E b ∧ b ≠ x) :
    Calls Try.prog 11 #[.pointer (some ⟨x, 0, none⟩), q.val] w fun e w' => e = .returned (.bool true) ∧ Dres w w' E x := by
  have D1 := Dy.start h hx hE q
  obtain ⟨b0, -⟩ := D1.bx.cells
  have hxl := hx.lt
  have HP := hide2 (pick_any q.kind (w.alloc (.cells #[.int .i64 q.kind, .string q.name, .string q.to, .slice q.bo q.bl q.bc, .int .i64 q.n, .int .i64 q.k1, .int .i64 q.k2, .int .i64 q.k3] 36)) hlo hhi)
  rw [hk] at HP
  have F1 : Fr (fun j => ¬ E j ∨ j = x) w (w.alloc (.cells #[.int .i64 q.kind, .string q.name, .string q.to, .slice q.bo q.bl q.bc, .int .i64 q.n, .int .i64 q.k1, .int .i64 q.k2, .int .i64 q.k3] 36)) := (Fr.refl _ w).alloc _
  obtain ⟨s1, s2, s3, s4, s5, s6⟩ := D1.six
  have hel : ∀ j, E j → j < w.heap.size := fun j e => by
    obtain ⟨⟨K, κ, ca, g1, g2, g3, g4, g5⟩, -, -⟩ := h
    exact (g5 j e).2
  unfold OpR.val
  generalize hW : w.alloc (.cells #[.int .i64 q.kind, .string q.name, .string q.to, .slice q.bo q.bl q.bc, .int .i64 q.n, .int .i64 q.k1, .int .i64 q.k2, .int .i64 q.k3] 36) = W at *
  go_enter Try.func11, Try.ntmps11
  go_wp2_with fail
  try rw [hW]
  refine HP.out.mono ?_
  rintro e w1 ⟨rfl, rfl⟩
  clear HP
  have HD1 := hide2 D1.drew
  have HF1 := hide2 F1
  have HEL := hide2 hel
  have hyl : w.heap.size < w1.heap.size := (Array.getElem?_eq_some_iff.1 D1.bx).1
  have hslW : Sl w1 q.bo q.bl q.bc q.bs := hsl.frX F1 (fun hl b off e => by
    obtain ⟨e1, e2⟩ := hqe hl b off e
    rintro (h | h)
    · exact h e1
    · exact e2 h)
  obtain ⟨v2, w2, hap, hO2, hB2⟩ := copy_bytes hslW hbl
  obtain ⟨ab, cb, eb⟩ := own_form hO2
  subst eb
  have HAP := hide2 hap
  have HD2 := hide2 (D1.wide hB2)
  have HO2 := hide2 hO2
  have HB2 := hide2 hB2
  have hbyt := hslW.2.2.2.1
  have HBY := hide2 hbyt
  have hlen1 : q.bs.length = q.bl := hslW.1
  have HSL := hide2 hsl
  have HQE := hide2 hqe
  clear D1 F1 hel hW h hx hap hO2 hslW hB2 HD1 hsl hqe hbyt
  have s3' := s3
  go_wp2_with (at_builtin; refine Hid.out ?_)
  refine hide2 ?_
  refine wpList_append_eq rfl _ _ 32 rfl (.slice (some ⟨w1.heap.size, 0, none⟩) 0 0) (.slice q.bo q.bl q.bc) _ _ rfl rfl HAP.out ?_
  clear HAP s1 s2 s3 s3' s4 s5 s6
  obtain ⟨s1, s2, s3, s4, s5, s6⟩ := HD2.out.six
  have HD2' := hide2 HD2.out.drew
  have hB2s := HB2.out.size
  have HF2 : Hid (Fr (fun j => ¬ E j ∨ j = x) w w2.drew) := hide2 ((HF1.out.trans (G := fun _ => False) (Fr.below HB2.out) (fun j hj => hj.elim)).drewN 1)
  have HO2' : Hid (Own w2.drew w1.heap.size (.slice ab q.bs.length cb) q.bs) := hide2 (row_any HO2.out fun j e => rfl)
  obtain ⟨ab2, cb2, eb2, hslb, hbE⟩ := Own.sl HO2'.out HBY.out
  simp only [Value.slice.injEq] at eb2
  obtain ⟨rfl, -, rfl⟩ := eb2
  have hbl2 : ∀ b off, ab = some ⟨b, off, none⟩ → w1.heap.size ≤ b ∧ b < w2.heap.size := fun b off e => ⟨hbE b off e, by
    have := World.ownsRow.lt HO2'.out b (by rw [e]; rfl)
    exact this.2⟩
  have HBL := hide2 hbl2
  have HSLB := hide2 hslb
  have HLEN := hide2 hlen1
  have hml := hslb.2.1
  have hml2 := hslb.2.2.1
  unfold maxLen at hml2
  obtain ⟨L, hL⟩ : ∃ L, L = q.bs.length := ⟨_, rfl⟩
  rw [← hL] at HSLB HO2' hml
  have HLL := hide2 hL
  simp only [← hL]
  clear hbl2 hslb hbE hlen1 hL HD2
  go_frame
  go_wp2
  refine wp_region_noPanic ?_
  refine wp_region_held_drew (S := (fun u : World => u.cell? ⟨x, 0, none⟩ = some (.pointer (some ⟨d, 0, none⟩)) ∧ u.cell? ⟨x, 1, none⟩ = some (.pointer (some ⟨r, 0, none⟩)) ∧ u.cell? ⟨w.heap.size, 1, none⟩ = some (.string q.name) ∧ u.cell? ⟨w.heap.size, 2, none⟩ = some (.string q.to) ∧ u.cell? ⟨w.heap.size, 3, none⟩ = some (.slice q.bo q.bl q.bc) ∧ u.cell? ⟨w.heap.size, 4, none⟩ = some (.int .i64 q.n))) (by kernel_rfl) (⟨s1, s2, s3, s4, s5, s6⟩) (fun hHeld => ?_)
  refine wpAnyH_take (i := 0) (oi := { dst := some 23, op := _, type := _, pos := _, after := _, guard := _ }) (v := ?_) rfl (by kernel_rfl) (by kernel_rfl) (by kernel_rfl) (fun _ _ _ h => h) (Or.inl ⟨by rfl, ?_⟩) (by assumption) ?_
  rotate_left 1
  · intro u hSw; obtain ⟨s1, s2, s3, s4, s5, s6⟩ := hSw; go_simp; try with_reducible rfl
  try simp only [Act.put, List.setIfInBounds_toArray, List.set_cons_zero, List.set_cons_succ]
  refine wpAnyH_take (i := 1) (oi := { dst := some 24, op := _, type := _, pos := _, after := _, guard := _ }) (v := ?_) rfl (by kernel_rfl) (by kernel_rfl) (by kernel_rfl) (fun _ _ _ h => h) (Or.inl ⟨by rfl, ?_⟩) (by assumption) ?_
  rotate_left 1
  · intro u hSw; obtain ⟨s1, s2, s3, s4, s5, s6⟩ := hSw; go_simp; try with_reducible rfl
  try simp only [Act.put, List.setIfInBounds_toArray, List.set_cons_zero, List.set_cons_succ]
  refine wpAnyH_take (i := 2) (oi := { dst := some 25, op := _, type := _, pos := _, after := _, guard := _ }) (v := ?_) rfl (by kernel_rfl) (by kernel_rfl) (by kernel_rfl) (fun _ _ _ h => h) (Or.inl ⟨by rfl, ?_⟩) (by assumption) ?_
  rotate_left 1
  · intro u hSw; obtain ⟨s1, s2, s3, s4, s5, s6⟩ := hSw; go_simp; try with_reducible rfl
  try simp only [Act.put, List.setIfInBounds_toArray, List.set_cons_zero, List.set_cons_succ]
  refine wpAnyH_take (i := 3) (oi := { dst := some 26, op := _, type := _, pos := _, after := _, guard := _ }) (v := ?_) rfl (by kernel_rfl) (by kernel_rfl) (by kernel_rfl) (fun _ _ _ h => h) (Or.inl ⟨by rfl, ?_⟩) (by assumption) ?_
  rotate_left 1
  · intro u hSw; obtain ⟨s1, s2, s3, s4, s5, s6⟩ := hSw; go_simp; try with_reducible rfl
  try simp only [Act.put, List.setIfInBounds_toArray, List.set_cons_zero, List.set_cons_succ]
  refine wpAnyH_take (i := 4) (oi := { dst := some 27, op := _, type := _, pos := _, after := _, guard := _ }) (v := ?_) rfl (by kernel_rfl) (by kernel_rfl) (by kernel_rfl) (fun _ _ _ h => h) (Or.inl ⟨by rfl, ?_⟩) (by assumption) ?_
  rotate_left 1
  · intro u hSw; obtain ⟨s1, s2, s3, s4, s5, s6⟩ := hSw; go_simp; try with_reducible rfl
  try simp only [Act.put, List.setIfInBounds_toArray, List.set_cons_zero, List.set_cons_succ]
  refine wpAnyH_take (i := 5) (oi := { dst := some 28, op := _, type := _, pos := _, after := _, guard := _ }) (v := ?_) rfl (by kernel_rfl) (by kernel_rfl) (by kernel_rfl) (fun _ _ _ h => h) (Or.inl ⟨by rfl, ?_⟩) (by assumption) ?_
  rotate_left 1
  · intro u hSw; obtain ⟨s1, s2, s3, s4, s5, s6⟩ := hSw; go_simp; try with_reducible rfl
  try simp only [Act.put, List.setIfInBounds_toArray, List.set_cons_zero, List.set_cons_succ]
  refine wpAnyH_take (i := 6) (oi := { dst := some 29, op := _, type := _, pos := _, after := _, guard := _ }) (v := ?_) rfl (by kernel_rfl) (by kernel_rfl) (by kernel_rfl) (fun _ _ _ h => h) (Or.inl ⟨by rfl, ?_⟩) (by assumption) ?_
  rotate_left 1
  · intro u hSw; obtain ⟨s1, s2, s3, s4, s5, s6⟩ := hSw; go_simp; try with_reducible rfl
  try simp only [Act.put, List.setIfInBounds_toArray, List.set_cons_zero, List.set_cons_succ]
  refine wpAnyH_ready (rs := [7]) (by kernel_rfl) (by simp) ?_
  refine AllReadyH.cons (o := { dst := some 30, op := _, type := _, pos := _, after := _, guard := _ }) rfl (fun K hK => ?_) AllReadyH.nil
  go_simp
  refine (jp_append HD2'.out.jg q.name hs ab L cb q.bs HSLB.out (fun _ b off e => .inr (HBL.out b off e))).mono ?_
  rintro e w3 ⟨v, rfl, rfl, hj3, F3⟩
  have HD3 := hide2 (HD2'.out.next hj3 F3)
  have HF3 := hide2 F3
  clear hj3 F3
  go_wp2_with fail
  refine hK.out _ _ (HD3.out.six) (fun hHeld => ?_)
  clear hK K
  try simp only [Act.put, List.setIfInBounds_toArray, List.set_cons_zero, List.set_cons_succ]
  refine wpAnyH_take (i := 8) (oi := { dst := some 6, op := _, type := _, pos := _, after := _, guard := _ }) (v := ?_) rfl (by kernel_rfl) (by kernel_rfl) (by kernel_rfl) (fun _ _ _ h => h) (Or.inl ⟨by rfl, ?_⟩) (by assumption) ?_
  rotate_left 1
  · intro u hSw; obtain ⟨s1, s2, s3, s4, s5, s6⟩ := hSw; go_simp; try with_reducible rfl
  try simp only [Act.put, List.setIfInBounds_toArray, List.set_cons_zero, List.set_cons_succ]
  refine wpAnyH_done (by kernel_rfl) ?_ _
  refine NoPanic.normal ?_
  have hs3 := HF3.out.size
  have HO3 : Hid (∃ zs : List Int, zs.length = L ∧ Own w3 w1.heap.size (.slice ab L cb) zs) := hide2 ⟨q.bs, HLL.out.symm, by
    have h9 := HO2'.out
    have e9 := HLL.out
    unfold Own at h9 ⊢
    refine row_any h9 fun j e => HF3.out.block j ?_ (fun hn => hn (.inr ?_))
    · exact (World.ownsRow.lt h9 j e).2
    · exact ⟨(World.ownsRow.lt h9 j e).1, (World.ownsRow.lt h9 j e).2⟩⟩
  have HF3' : Hid (Fr (fun j => ¬ E j ∨ j = x) w w3) := hide2 (HF2.out.trans (HF3.out.mono (G := fun j => ¬ E j ∨ j = x) (fun j _ hj => .inl (fun e => hj (.inl (.inl e))))) (fun j hj => .inl hj))
  have hge : w.heap.size ≤ w1.heap.size := HF1.out.size
  have HD30 := HD3
  clear s1 s2 s3 s4 s5 s6 HD2' HSLB HF2 HO2' HO2 HF3
  generalize hans : ans P.n c o (P.app q.name q.bs) = av at *
  have HANS := hide2 hans
  generalize hlef : lef P c o (P.app q.name q.bs) = PL at *
  generalize hoff : offed P.n c o = ol at *
  have HLEF := hide2 hlef
  have HOFF := hide2 hoff
  clear hans hlef hoff
  go_wp2
  go_loopw [7] (fun i wr => ∃ k : Nat, k ≤ L ∧ i = .int .i64 k ∧ (∃ zs : List Int, zs.length = L ∧ Own wr w1.heap.size (.slice ab L cb) zs) ∧ Dy wr (fun j => ((E j ∨ j = w.heap.size) ∨ w1.heap.size ≤ j ∧ j < w2.heap.size)) x d r PL c ol P c o w.heap.size q ∧ Fr (fun j => ¬ E j ∨ j = x) w wr) (fun i _ => L - (intOf i).toNat)
  case atStart => exact ⟨0, by omega, rfl, HO3.out, HD3.out, HF3'.out⟩
  case round =>
    clear HO3 HF3' HD3 HD30
    obtain ⟨k, hk, rfl, ⟨zs, hz1, hz2⟩, hD, hF⟩ := hrel
    by_cases hkL : k < L
    · subst hz1
      obtain ⟨g, cg, eg⟩ := Go.Joins.ownsRow_form hz2 (by omega)
      simp only [Value.slice.injEq] at eg
      obtain ⟨rfl, -, rfl⟩ := eg
      obtain ⟨v0, c0, f0, hg1, hg2⟩ := own_cell hz2 hkL
      have hgb := (HBL.out g 0 rfl).2
      have hO2 := own_put (k := k) hz2 77
      have hgx : g ≠ x := by have := HEL.out x hE; omega
      have hgy : g ≠ w.heap.size := by
        omega
      have hD2 : Dy (wr.setCell ⟨g, k, none⟩ (.int .u8 77)) (fun j => ((E j ∨ j = w.heap.size) ∨ w1.heap.size ≤ j ∧ j < w2.heap.size)) x d r PL c ol P c o w.heap.size q :=
        ⟨hD.jg.keep ((Fr.refl _ wr).setCell (p := ⟨g, k, none⟩) (.inl (.inr ⟨hg1, hgb⟩)) _) (fun j e => .inl e), (Below.heap_setCell _ _ _ _ (by simpa using Ne.symm hgx)).trans hD.wx, (Below.heap_setCell _ _ _ _ (by simpa using Ne.symm hgy)).trans hD.bx, hD.ex, hD.ey⟩
      have hF2 := hF.setCell (p := ⟨g, k, none⟩) (.inr (by show w.heap.size ≤ g; omega)) (.int .u8 77)
      have HX := hide2 (And.intro (show ∃ zs' : List Int, zs'.length = zs.length ∧ Own (wr.setCell ⟨g, k, none⟩ (.int .u8 77)) w1.heap.size (.slice (some ⟨g, 0, none⟩) zs.length cb) zs' from ⟨_, List.length_set, hO2⟩) (And.intro hD2 hF2))
      have hkL2 : (k : Int) < (zs.length : Int) := by omega
      clear hz2 hO2 hD hD2 hF hF2
      go_wp2
      go_roundw
      case rel => exact ⟨k + 1, by omega, by go_num, HX.out⟩
      case measure => simp [intOf]; omega
    · obtain rfl : L = k := by omega
      obtain ⟨s1, s2, s3, s4, s5, s6⟩ := hD.six
      have HD := hide2 hD.drew
      have HF := hide2 (hF.drewN 1)
      have HSLr : Hid (Sl wr.drew q.bo q.bl q.bc q.bs) := hide2 (HSL.out.frX (hF.drewN 1) (fun hl b off e => by
        obtain ⟨e1, e2⟩ := HQE.out hl b off e
        rintro (h | h)
        · exact h e1
        · exact e2 h))
      have HJR : Hid (Calls Try.prog 29 #[.pointer (some ⟨r, 0, none⟩), .string q.name, .slice q.bo q.bl q.bc] wr.drew fun e w' => ∃ v, e = .returned v ∧ v = .int .i64 av ∧ Jg w' (fun j => ((E j ∨ j = w.heap.size) ∨ w1.heap.size ≤ j ∧ j < w2.heap.size)) d r PL c ol PL c ol ∧ Fr (fun j => ¬ ((E j ∨ j = w.heap.size) ∨ w1.heap.size ≤ j ∧ j < w2.heap.size)) wr.drew w') := hide2 (by
        have := jr_append HD.out.jg q.name hs q.bo q.bl q.bc q.bs HSLr.out (fun hl b off e => .inl (.inl (HQE.out hl b off e).1))
        rw [HANS.out, HLEF.out, HOFF.out] at this
        exact this)
      clear hz2 hD hF
      go_wp2
      refine wp_region_noPanic ?_
      refine wp_region_held_drew (S := (fun u : World => u.cell? ⟨x, 0, none⟩ = some (.pointer (some ⟨d, 0, none⟩)) ∧ u.cell? ⟨x, 1, none⟩ = some (.pointer (some ⟨r, 0, none⟩)) ∧ u.cell? ⟨w.heap.size, 1, none⟩ = some (.string q.name) ∧ u.cell? ⟨w.heap.size, 2, none⟩ = some (.string q.to) ∧ u.cell? ⟨w.heap.size, 3, none⟩ = some (.slice q.bo q.bl q.bc) ∧ u.cell? ⟨w.heap.size, 4, none⟩ = some (.int .i64 q.n))) (by kernel_rfl) (⟨s1, s2, s3, s4, s5, s6⟩) (fun hHeld => ?_)
      refine wpAnyH_take (i := 0) (oi := { dst := some 40, op := _, type := _, pos := _, after := _, guard := _ }) (v := ?_) rfl (by kernel_rfl) (by kernel_rfl) (by kernel_rfl) (fun _ _ _ h => h) (Or.inl ⟨by rfl, ?_⟩) (by assumption) ?_
      rotate_left 1
      · intro u hSw; obtain ⟨s1, s2, s3, s4, s5, s6⟩ := hSw; go_simp; try with_reducible rfl
      try simp only [Act.put, List.setIfInBounds_toArray, List.set_cons_zero, List.set_cons_succ]
      refine wpAnyH_take (i := 1) (oi := { dst := some 41, op := _, type := _, pos := _, after := _, guard := _ }) (v := ?_) rfl (by kernel_rfl) (by kernel_rfl) (by kernel_rfl) (fun _ _ _ h => h) (Or.inl ⟨by rfl, ?_⟩) (by assumption) ?_
      rotate_left 1
      · intro u hSw; obtain ⟨s1, s2, s3, s4, s5, s6⟩ := hSw; go_simp; try with_reducible rfl
      try simp only [Act.put, List.setIfInBounds_toArray, List.set_cons_zero, List.set_cons_succ]
      refine wpAnyH_take (i := 2) (oi := { dst := some 42, op := _, type := _, pos := _, after := _, guard := _ }) (v := ?_) rfl (by kernel_rfl) (by kernel_rfl) (by kernel_rfl) (fun _ _ _ h => h) (Or.inl ⟨by rfl, ?_⟩) (by assumption) ?_
      rotate_left 1
      · intro u hSw; obtain ⟨s1, s2, s3, s4, s5, s6⟩ := hSw; go_simp; try with_reducible rfl
      try simp only [Act.put, List.setIfInBounds_toArray, List.set_cons_zero, List.set_cons_succ]
      refine wpAnyH_take (i := 3) (oi := { dst := some 43, op := _, type := _, pos := _, after := _, guard := _ }) (v := ?_) rfl (by kernel_rfl) (by kernel_rfl) (by kernel_rfl) (fun _ _ _ h => h) (Or.inl ⟨by rfl, ?_⟩) (by assumption) ?_
      rotate_left 1
      · intro u hSw; obtain ⟨s1, s2, s3, s4, s5, s6⟩ := hSw; go_simp; try with_reducible rfl
      try simp only [Act.put, List.setIfInBounds_toArray, List.set_cons_zero, List.set_cons_succ]
      refine wpAnyH_take (i := 4) (oi := { dst := some 44, op := _, type := _, pos := _, after := _, guard := _ }) (v := ?_) rfl (by kernel_rfl) (by kernel_rfl) (by kernel_rfl) (fun _ _ _ h => h) (Or.inl ⟨by rfl, ?_⟩) (by assumption) ?_
      rotate_left 1
      · intro u hSw; obtain ⟨s1, s2, s3, s4, s5, s6⟩ := hSw; go_simp; try with_reducible rfl
      try simp only [Act.put, List.setIfInBounds_toArray, List.set_cons_zero, List.set_cons_succ]
      refine wpAnyH_take (i := 5) (oi := { dst := some 45, op := _, type := _, pos := _, after := _, guard := _ }) (v := ?_) rfl (by kernel_rfl) (by kernel_rfl) (by kernel_rfl) (fun _ _ _ h => h) (Or.inl ⟨by rfl, ?_⟩) (by assumption) ?_
      rotate_left 1
      · intro u hSw; obtain ⟨s1, s2, s3, s4, s5, s6⟩ := hSw; go_simp; try with_reducible rfl
      try simp only [Act.put, List.setIfInBounds_toArray, List.set_cons_zero, List.set_cons_succ]
      refine wpAnyH_take (i := 6) (oi := { dst := some 46, op := _, type := _, pos := _, after := _, guard := _ }) (v := ?_) rfl (by kernel_rfl) (by kernel_rfl) (by kernel_rfl) (fun _ _ _ h => h) (Or.inl ⟨by rfl, ?_⟩) (by assumption) ?_
      rotate_left 1
      · intro u hSw; obtain ⟨s1, s2, s3, s4, s5, s6⟩ := hSw; go_simp; try with_reducible rfl
      try simp only [Act.put, List.setIfInBounds_toArray, List.set_cons_zero, List.set_cons_succ]
      refine wpAnyH_take (i := 7) (oi := { dst := some 47, op := _, type := _, pos := _, after := _, guard := _ }) (v := ?_) rfl (by kernel_rfl) (by kernel_rfl) (by kernel_rfl) (fun _ _ _ h => h) (Or.inl ⟨by rfl, ?_⟩) (by assumption) ?_
      rotate_left 1
      · intro u hSw; obtain ⟨s1, s2, s3, s4, s5, s6⟩ := hSw; go_simp; try with_reducible rfl
      try simp only [Act.put, List.setIfInBounds_toArray, List.set_cons_zero, List.set_cons_succ]
      refine wpAnyH_take (i := 8) (oi := { dst := some 48, op := _, type := _, pos := _, after := _, guard := _ }) (v := ?_) rfl (by kernel_rfl) (by kernel_rfl) (by kernel_rfl) (fun _ _ _ h => h) (Or.inl ⟨by rfl, ?_⟩) (by assumption) ?_
      rotate_left 1
      · intro u hSw; obtain ⟨s1, s2, s3, s4, s5, s6⟩ := hSw; go_simp; try with_reducible rfl
      try simp only [Act.put, List.setIfInBounds_toArray, List.set_cons_zero, List.set_cons_succ]
      refine wpAnyH_ready (rs := [9]) (by kernel_rfl) (by simp) ?_
      refine AllReadyH.cons (o := { dst := some 49, op := _, type := _, pos := _, after := _, guard := _ }) rfl (fun K hK => ?_) AllReadyH.nil
      go_simp
      refine HJR.out.mono ?_
      rintro e w4 ⟨v, rfl, rfl, hj4, F4⟩
      have HD4 := hide2 (HD.out.next hj4 F4)
      have HF4 := hide2 F4
      clear hj4 F4
      go_wp2_with fail
      refine hK.out _ _ (HD4.out.six) (fun hHeld => ?_)
      clear hK K
      try simp only [Act.put, List.setIfInBounds_toArray, List.set_cons_zero, List.set_cons_succ]
      refine wpAnyH_take (i := 10) (oi := { dst := some 50, op := _, type := _, pos := _, after := _, guard := _ }) (v := ?_) rfl (by kernel_rfl) (by kernel_rfl) (by kernel_rfl) (fun _ _ _ h => h) (Or.inl ⟨by rfl, ?_⟩) (by assumption) ?_
      rotate_left 1
      · intro u hSw; obtain ⟨s1, s2, s3, s4, s5, s6⟩ := hSw; go_simp; try with_reducible rfl
      try simp only [Act.put, List.setIfInBounds_toArray, List.set_cons_zero, List.set_cons_succ]
      refine wpAnyH_take (i := 11) (oi := { dst := some 4, op := _, type := _, pos := _, after := _, guard := _ }) (v := ?_) rfl (by kernel_rfl) (by kernel_rfl) (by kernel_rfl) (fun _ _ _ h => h) (Or.inl ⟨by rfl, ?_⟩) (by assumption) ?_
      rotate_left 1
      · intro u hSw; obtain ⟨s1, s2, s3, s4, s5, s6⟩ := hSw; go_simp; try with_reducible rfl
      try simp only [Act.put, List.setIfInBounds_toArray, List.set_cons_zero, List.set_cons_succ]
      refine wpAnyH_done (by kernel_rfl) ?_ _
      refine NoPanic.normal ?_
      go_wp2
      go_ret
      refine ⟨rfl, d, r, _, _, _, HD4.out.jg.less (fun j e => .inl (.inl e)), HD4.out.wx, ?_⟩
      exact HF.out.trans (HF4.out.mono (G := fun j => ¬ E j ∨ j = x) (fun j _ hj => .inl (fun e => hj (.inl (.inl e))))) (fun j hj => .inl hj)
end
end Go.Proofs.Ytmggmnbialacbaa

/-
  'does' of the kind 8: both disks crash. (Printed by gen_dj7.py.)
-/
set_option linter.unusedVariables false
set_option linter.unusedSimpArgs false
namespace Go.Proofs.Ytmggmnbialacbaa
open Go.RowKit Go.Maps

/-- A disk of the program's that a crash has left; E: blocks that are not its own. -/
def Lone (w : World) (E : Nat → Prop) (d : Nat) (P : PD) : Prop := ∃ K, Land.DR w K d P 0 false false ∧ ∀ j, (K j ∨ j = d) → j < w.heap.size ∧ ¬ E j
theorem Lone.keep {w w' : World} {E : Nat → Prop} {d : Nat} {P : PD} (h : Lone w E d P) (F : Fr E w w') : Lone w' E d P := by
  obtain ⟨K, h1, h2⟩ := h
  exact ⟨K, h1.keep ⟨fun j hj q => F.block j hj fun e => (h2 j (q.elim .inr .inl)).2 e⟩, fun j hj => ⟨Nat.lt_of_lt_of_le (h2 j hj).1 F.size, (h2 j hj).2⟩⟩
theorem Lone.less {w : World} {E E' : Nat → Prop} {d : Nat} {P : PD} (h : Lone w E d P) (hE : ∀ j, E' j → E j) : Lone w E' d P := by
  obtain ⟨K, h1, h2⟩ := h
  exact ⟨K, h1, fun j hj => ⟨(h2 j hj).1, fun e => (h2 j hj).2 (hE j e)⟩⟩
theorem Jg.els {w : World} {E : Nat → Prop} {d r : Nat} {P Q : PD} {c c' : Int} {o o' : Bool} (h : Jg w E d r P c o Q c' o') : ∀ j, E j → j < w.heap.size := fun j e => by
  obtain ⟨⟨K, κ, ca, g1, g2, g3, g4, g5⟩, -, -⟩ := h
  exact (g5 j e).2
theorem jp_crash {w : World} {E : Nat → Prop} {d r : Nat} {P Q : PD} {c c' : Int} {o o' : Bool} (h : Jg w E d r P c o Q c' o') (ke di te : Int) :
    Calls Try.prog 21 #[.pointer (some ⟨d, 0, none⟩), .agg #[.int .i64 ke, .int .i64 di, .int .i64 te]] w fun e w' => ∃ d', e = .returned (.pointer (some ⟨d', 0, none⟩)) ∧ Jg w' E d r P c o Q c' o' ∧ Lone w' (fun j => j < w.heap.size) d' (Land.crashed P ke di te) ∧ Below w.heap.size w w' := by
  have h0 := h
  obtain ⟨⟨K, κ, ca, h1, h2, h3, h4, h5⟩, hp, hq⟩ := h
  refine (Land.dr_crash h1 hp ke di te).mono ?_
  rintro e w' ⟨d', rfl, hd, hD, hB⟩
  obtain ⟨_, _, _, hk⟩ := hD.dk
  have hlt := hk.lt
  refine ⟨d', rfl, h0.keep (Fr.below hB) (fun j e => .inl e), ⟨fun j => w.heap.size ≤ j ∧ j < w'.heap.size, hD.mono (fun j hj q => ⟨q, hj⟩), fun j hj => ?_⟩, hB⟩
  rcases hj with hj | rfl
  · exact ⟨hj.2, by omega⟩
  · exact ⟨hlt, by omega⟩
theorem jr_crash {w : World} {E E2 : Nat → Prop} {d r d1 : Nat} {P Q P1 : PD} {c c' : Int} {o o' : Bool} (h : Jg w E d r P c o Q c' o') (hL : Lone w E2 d1 P1) (hP1 : P1.inv) (hE2 : ∀ j, E2 j → j < w.heap.size) (ke di te : Int) :
    Calls Try.prog 39 #[.pointer (some ⟨r, 0, none⟩), .agg #[.int .i64 ke, .int .i64 di, .int .i64 te]] w fun e w' => ∃ r', e = .returned (.pointer (some ⟨r', 0, none⟩)) ∧ Jg w' E2 d1 r' P1 (-1) false (Land.crashed Q ke di te) (-1) false ∧ Below w.heap.size w w' := by
  have h0 := h
  obtain ⟨⟨K, κ, ca, h1, ⟨vF, vO, vL, vN, φ, β, h2⟩, h3, h4, h5⟩, hp, hq⟩ := h
  refine (ref_crash0 h2 hq ke di te).mono ?_
  rintro e w' ⟨r', rfl, hr, ⟨κ', hR, hκ⟩, hB⟩
  obtain ⟨K1, g1, g2⟩ := hL.keep (Fr.below hB)
  obtain ⟨K0, g01, g02⟩ := hL
  have hz := hB.size
  refine ⟨r', rfl, ⟨⟨K0, κ', 0, ?_, hR, (fun h => absurd h (by omega)), fun j hj => ?_, fun j e => ?_⟩, hP1, Land.inv_crashed hq ke di te⟩, hB⟩
  · exact g01.keep ⟨fun j hj _ => hB.block j hj⟩
  · have := g02 j hj
    exact ⟨by omega, hκ j (by omega), this.2⟩
  · have := hE2 j e
    exact ⟨hκ j (by omega), by omega⟩
theorem Wx.set0 {w : World} {x d r : Nat} (h : Wx w x d r) (d' : Nat) : Wx (w.setCell ⟨x, 0, none⟩ (.pointer (some ⟨d', 0, none⟩))) x d' r := by
  unfold Wx at *
  rw [Go.Joins.block_setCell h]
  rfl
theorem Wx.set1 {w : World} {x d r : Nat} (h : Wx w x d r) (r' : Nat) : Wx (w.setCell ⟨x, 1, none⟩ (.pointer (some ⟨r', 0, none⟩))) x d r' := by
  unfold Wx at *
  rw [Go.Joins.block_setCell h]
  rfl

section
variable {w : World} {E : Nat → Prop} {x d r : Nat} {P : PD} {c : Int} {o : Bool}

set_option maxRecDepth 100000 in
set_option maxHeartbeats 4000000 in
theorem jd_crash (h : Jg w E d r P c o P c o) (hx : Wx w x d r) (hE : E x) (q : OpR) (hk : pk q.kind = 8) (hlo : -9223372036854775808 ≤ q.kind) (hhi : q.kind ≤ 9223372036854775807)  :
    Calls Try.prog 11 #[.pointer (some ⟨x, 0, none⟩), q.val] w fun e w' => e = .returned (.bool true) ∧ Dres w w' E x := by
  have D1 := Dy.start h hx hE q
  obtain ⟨b0, -, -, -, -, b5, b6, b7⟩ := D1.bx.cells
  have hyx : x ≠ w.heap.size := by have := hx.lt; omega
  have hxl := hx.lt
  have HP := hide2 (pick_any q.kind (w.alloc (.cells #[.int .i64 q.kind, .string q.name, .string q.to, .slice q.bo q.bl q.bc, .int .i64 q.n, .int .i64 q.k1, .int .i64 q.k2, .int .i64 q.k3] 36)) hlo hhi)
  rw [hk] at HP
  have F1 : Fr (fun j => ¬ E j ∨ j = x) w (w.alloc (.cells #[.int .i64 q.kind, .string q.name, .string q.to, .slice q.bo q.bl q.bc, .int .i64 q.n, .int .i64 q.k1, .int .i64 q.k2, .int .i64 q.k3] 36)) := (Fr.refl _ w).alloc _
  obtain ⟨s1, s2, -, -, -, -⟩ := D1.six
  have sf := Go.Joins.unfrozen_of_block D1.wx 0
  have hpi := h.pi
  have hci := Land.inv_crashed hpi q.k1 q.k2 q.k3
  have hel : ∀ j, E j → j < w.heap.size := fun j e => by
    obtain ⟨⟨K, κ, ca, g1, g2, g3, g4, g5⟩, -, -⟩ := h
    exact (g5 j e).2
  unfold OpR.val
  generalize hW : w.alloc (.cells #[.int .i64 q.kind, .string q.name, .string q.to, .slice q.bo q.bl q.bc, .int .i64 q.n, .int .i64 q.k1, .int .i64 q.k2, .int .i64 q.k3] 36) = W at *
  go_enter Try.func11, Try.ntmps11
  go_wp2_with fail
  try rw [hW]
  refine HP.out.mono ?_
  rintro e w1 ⟨rfl, rfl⟩
  clear HP
  have HD1 := hide2 D1.drew
  have HF1 := hide2 F1
  have HEL := hide2 hel
  clear D1 F1 hel hW h hx
  go_wp2
  refine wp_region_noPanic ?_
  refine wp_region_held_drew (S := (fun u : World => u.cell? ⟨w.heap.size, 5, none⟩ = some (.int .i64 q.k1) ∧ u.cell? ⟨w.heap.size, 6, none⟩ = some (.int .i64 q.k2) ∧ u.cell? ⟨w.heap.size, 7, none⟩ = some (.int .i64 q.k3))) (by kernel_rfl) (⟨b5, b6, b7⟩) (fun hHeld => ?_)
  refine wpAnyH_take (i := 0) (oi := { dst := some 206, op := _, type := _, pos := _, after := _, guard := _ }) (v := ?_) rfl (by kernel_rfl) (by kernel_rfl) (by kernel_rfl) (fun _ _ _ h => h) (Or.inl ⟨by rfl, ?_⟩) (by assumption) ?_
  rotate_left 1
  · intro u hSw; obtain ⟨s1, s2, s3⟩ := hSw; go_simp; try with_reducible rfl
  try simp only [Act.put, List.setIfInBounds_toArray, List.set_cons_zero, List.set_cons_succ]
  refine wpAnyH_take (i := 1) (oi := { dst := some 207, op := _, type := _, pos := _, after := _, guard := _ }) (v := ?_) rfl (by kernel_rfl) (by kernel_rfl) (by kernel_rfl) (fun _ _ _ h => h) (Or.inl ⟨by rfl, ?_⟩) (by assumption) ?_
  rotate_left 1
  · intro u hSw; obtain ⟨s1, s2, s3⟩ := hSw; go_simp; try with_reducible rfl
  try simp only [Act.put, List.setIfInBounds_toArray, List.set_cons_zero, List.set_cons_succ]
  refine wpAnyH_take (i := 2) (oi := { dst := some 208, op := _, type := _, pos := _, after := _, guard := _ }) (v := ?_) rfl (by kernel_rfl) (by kernel_rfl) (by kernel_rfl) (fun _ _ _ h => h) (Or.inl ⟨by rfl, ?_⟩) (by assumption) ?_
  rotate_left 1
  · intro u hSw; obtain ⟨s1, s2, s3⟩ := hSw; go_simp; try with_reducible rfl
  try simp only [Act.put, List.setIfInBounds_toArray, List.set_cons_zero, List.set_cons_succ]
  refine wpAnyH_take (i := 3) (oi := { dst := some 209, op := _, type := _, pos := _, after := _, guard := _ }) (v := ?_) rfl (by kernel_rfl) (by kernel_rfl) (by kernel_rfl) (fun _ _ _ h => h) (Or.inl ⟨by rfl, ?_⟩) (by assumption) ?_
  rotate_left 1
  · intro u hSw; obtain ⟨s1, s2, s3⟩ := hSw; go_simp; try with_reducible rfl
  try simp only [Act.put, List.setIfInBounds_toArray, List.set_cons_zero, List.set_cons_succ]
  refine wpAnyH_take (i := 5) (oi := { dst := some 211, op := _, type := _, pos := _, after := _, guard := _ }) (v := ?_) rfl (by kernel_rfl) (by kernel_rfl) (by kernel_rfl) (fun _ _ _ h => h) (Or.inl ⟨by rfl, ?_⟩) (by assumption) ?_
  rotate_left 1
  · intro u hSw; obtain ⟨s1, s2, s3⟩ := hSw; go_simp; try with_reducible rfl
  try simp only [Act.put, List.setIfInBounds_toArray, List.set_cons_zero, List.set_cons_succ]
  refine wpAnyH_take (i := 6) (oi := { dst := some 212, op := _, type := _, pos := _, after := _, guard := _ }) (v := ?_) rfl (by kernel_rfl) (by kernel_rfl) (by kernel_rfl) (fun _ _ _ h => h) (Or.inl ⟨by rfl, ?_⟩) (by assumption) ?_
  rotate_left 1
  · intro u hSw; obtain ⟨s1, s2, s3⟩ := hSw; go_simp; try with_reducible rfl
  try simp only [Act.put, List.setIfInBounds_toArray, List.set_cons_zero, List.set_cons_succ]
  refine wpAnyH_ready (rs := [4]) (by kernel_rfl) (by simp) ?_
  refine AllReadyH.cons (o := { dst := some 210, op := _, type := _, pos := _, after := _, guard := _ }) rfl (fun K hK => ?_) AllReadyH.nil
  go_simp
  refine hK.out _ _ (hHeld) (fun hHeld => ?_)
  clear hK K
  try simp only [Act.put, List.setIfInBounds_toArray, List.set_cons_zero, List.set_cons_succ]
  refine wpAnyH_ready (rs := [7]) (by kernel_rfl) (by simp) ?_
  refine AllReadyH.cons (o := { dst := some 213, op := _, type := _, pos := _, after := _, guard := _ }) rfl (fun K hK => ?_) AllReadyH.nil
  go_simp
  refine (jp_crash HD1.out.jg q.k1 q.k2 q.k3).mono ?_
  rintro e w2 ⟨d1, rfl, hj2, hL2, B2⟩
  have hD2 := HD1.out.next hj2 (Fr.below B2)
  have HD2 := hide2 hD2
  have HL2 := hide2 hL2
  have HB2 := hide2 B2
  have t1 := hD2.wx.cells.1
  have tf := Go.Joins.unfrozen_of_block hD2.wx 0
  obtain ⟨-, -, -, -, -, c5, c6, c7⟩ := hD2.bx.cells
  clear hj2 hL2 B2 hD2
  go_wp2_with fail
  refine hK.out _ _ (⟨c5, c6, c7⟩) (fun hHeld => ?_)
  clear hK K
  try simp only [Act.put, List.setIfInBounds_toArray, List.set_cons_zero, List.set_cons_succ]
  refine wpAnyH_take (i := 8) (oi := { dst := some 214, op := _, type := _, pos := _, after := _, guard := _ }) (v := ?_) rfl (by kernel_rfl) (by kernel_rfl) (by kernel_rfl) (fun _ _ _ h => h) (Or.inl ⟨by rfl, ?_⟩) (by assumption) ?_
  rotate_left 1
  · intro u hSw; obtain ⟨s1, s2, s3⟩ := hSw; go_simp; try with_reducible rfl
  try simp only [Act.put, List.setIfInBounds_toArray, List.set_cons_zero, List.set_cons_succ]
  refine wpAnyH_take (i := 9) (oi := { dst := some 215, op := _, type := _, pos := _, after := _, guard := _ }) (v := ?_) rfl (by kernel_rfl) (by kernel_rfl) (by kernel_rfl) (fun _ _ _ h => h) (Or.inl ⟨by rfl, ?_⟩) (by assumption) ?_
  rotate_left 1
  · intro u hSw; obtain ⟨s1, s2, s3⟩ := hSw; go_simp; try with_reducible rfl
  try simp only [Act.put, List.setIfInBounds_toArray, List.set_cons_zero, List.set_cons_succ]
  refine wpAnyH_ready (rs := [10]) (by kernel_rfl) (by simp) ?_
  refine AllReadyH.cons (o := { dst := none, op := _, type := _, pos := _, after := _, guard := _ }) rfl (fun K hK => ?_) AllReadyH.nil
  go_simp
  have hD2 := HD2.out
  have hW3 := hD2.wx.set0 d1
  have hF3 : Fr (fun j => j = x) w2 (w2.setCell ⟨x, 0, none⟩ (.pointer (some ⟨d1, 0, none⟩))) := (Fr.refl (fun j => j = x) w2).setCell (p := ⟨x, 0, none⟩) (.inl rfl) _
  have hB3 : Bx (w2.setCell ⟨x, 0, none⟩ (.pointer (some ⟨d1, 0, none⟩))) w.heap.size q := (hF3.block _ (Array.getElem?_eq_some_iff.1 hD2.bx).1 (fun e => hyx e.symm)).trans hD2.bx
  have hJ3 := hD2.jg.keep (hF3.mono (G := fun j => E j ∨ j = w.heap.size) (fun j _ e => by subst e; exact hD2.ex)) (fun j e => .inl e)
  have hL3 := (HL2.out.less (E' := fun j => E j ∨ j = w.heap.size) (fun j e => HD1.out.jg.els j e)).keep (hF3.mono (G := fun j => E j ∨ j = w.heap.size) (fun j _ e => by subst e; exact hD2.ex))
  obtain ⟨-, -, -, -, -, e5, e6, e7⟩ := hB3.cells
  refine hK.out _ _ (⟨e5, e6, e7⟩) (fun hHeld => ?_)
  clear hK K
  try simp only [Act.put, List.setIfInBounds_toArray, List.set_cons_zero, List.set_cons_succ]
  refine wpAnyH_done (by kernel_rfl) ?_ _
  refine NoPanic.normal ?_
  clear hHeld e5 e6 e7 c5 c6 c7 b5 b6 b7 b0 t1 tf s1 s2 sf hD2
  generalize w2.setCell ⟨x, 0, none⟩ (.pointer (some ⟨d1, 0, none⟩)) = V at *
  have HF3 := hide2 hF3
  have HJ3 := hide2 (hJ3.keep ((Fr.refl _ V).drewN 1) (fun j e => .inl e))
  have HL3 := hide2 (hL3.keep ((Fr.refl _ V).drewN 1))
  have hW3' : Wx V.drew x d1 r := hW3
  have hB3' : Bx V.drew w.heap.size q := hB3
  obtain ⟨s1, s2⟩ := hW3.cells
  obtain ⟨-, -, -, -, -, b5, b6, b7⟩ := hB3.cells
  have HW3 := hide2 hW3'
  have HB3 := hide2 hB3'
  clear hF3 hJ3 hL3 hW3 hB3 hW3' hB3'
  go_wp2
  refine wp_region_noPanic ?_
  refine wp_region_held_drew (S := (fun u : World => u.cell? ⟨w.heap.size, 5, none⟩ = some (.int .i64 q.k1) ∧ u.cell? ⟨w.heap.size, 6, none⟩ = some (.int .i64 q.k2) ∧ u.cell? ⟨w.heap.size, 7, none⟩ = some (.int .i64 q.k3))) (by kernel_rfl) (⟨b5, b6, b7⟩) (fun hHeld => ?_)
  refine wpAnyH_take (i := 0) (oi := { dst := some 216, op := _, type := _, pos := _, after := _, guard := _ }) (v := ?_) rfl (by kernel_rfl) (by kernel_rfl) (by kernel_rfl) (fun _ _ _ h => h) (Or.inl ⟨by rfl, ?_⟩) (by assumption) ?_
  rotate_left 1
  · intro u hSw; obtain ⟨s1, s2, s3⟩ := hSw; go_simp; try with_reducible rfl
  try simp only [Act.put, List.setIfInBounds_toArray, List.set_cons_zero, List.set_cons_succ]
  refine wpAnyH_take (i := 1) (oi := { dst := some 217, op := _, type := _, pos := _, after := _, guard := _ }) (v := ?_) rfl (by kernel_rfl) (by kernel_rfl) (by kernel_rfl) (fun _ _ _ h => h) (Or.inl ⟨by rfl, ?_⟩) (by assumption) ?_
  rotate_left 1
  · intro u hSw; obtain ⟨s1, s2, s3⟩ := hSw; go_simp; try with_reducible rfl
  try simp only [Act.put, List.setIfInBounds_toArray, List.set_cons_zero, List.set_cons_succ]
  refine wpAnyH_take (i := 2) (oi := { dst := some 218, op := _, type := _, pos := _, after := _, guard := _ }) (v := ?_) rfl (by kernel_rfl) (by kernel_rfl) (by kernel_rfl) (fun _ _ _ h => h) (Or.inl ⟨by rfl, ?_⟩) (by assumption) ?_
  rotate_left 1
  · intro u hSw; obtain ⟨s1, s2, s3⟩ := hSw; go_simp; try with_reducible rfl
  try simp only [Act.put, List.setIfInBounds_toArray, List.set_cons_zero, List.set_cons_succ]
  refine wpAnyH_take (i := 3) (oi := { dst := some 219, op := _, type := _, pos := _, after := _, guard := _ }) (v := ?_) rfl (by kernel_rfl) (by kernel_rfl) (by kernel_rfl) (fun _ _ _ h => h) (Or.inl ⟨by rfl, ?_⟩) (by assumption) ?_
  rotate_left 1
  · intro u hSw; obtain ⟨s1, s2, s3⟩ := hSw; go_simp; try with_reducible rfl
  try simp only [Act.put, List.setIfInBounds_toArray, List.set_cons_zero, List.set_cons_succ]
  refine wpAnyH_take (i := 5) (oi := { dst := some 221, op := _, type := _, pos := _, after := _, guard := _ }) (v := ?_) rfl (by kernel_rfl) (by kernel_rfl) (by kernel_rfl) (fun _ _ _ h => h) (Or.inl ⟨by rfl, ?_⟩) (by assumption) ?_
  rotate_left 1
  · intro u hSw; obtain ⟨s1, s2, s3⟩ := hSw; go_simp; try with_reducible rfl
  try simp only [Act.put, List.setIfInBounds_toArray, List.set_cons_zero, List.set_cons_succ]
  refine wpAnyH_take (i := 6) (oi := { dst := some 222, op := _, type := _, pos := _, after := _, guard := _ }) (v := ?_) rfl (by kernel_rfl) (by kernel_rfl) (by kernel_rfl) (fun _ _ _ h => h) (Or.inl ⟨by rfl, ?_⟩) (by assumption) ?_
  rotate_left 1
  · intro u hSw; obtain ⟨s1, s2, s3⟩ := hSw; go_simp; try with_reducible rfl
  try simp only [Act.put, List.setIfInBounds_toArray, List.set_cons_zero, List.set_cons_succ]
  refine wpAnyH_ready (rs := [4]) (by kernel_rfl) (by simp) ?_
  refine AllReadyH.cons (o := { dst := some 220, op := _, type := _, pos := _, after := _, guard := _ }) rfl (fun K hK => ?_) AllReadyH.nil
  go_simp
  refine hK.out _ _ (hHeld) (fun hHeld => ?_)
  clear hK K
  try simp only [Act.put, List.setIfInBounds_toArray, List.set_cons_zero, List.set_cons_succ]
  refine wpAnyH_ready (rs := [7]) (by kernel_rfl) (by simp) ?_
  refine AllReadyH.cons (o := { dst := some 223, op := _, type := _, pos := _, after := _, guard := _ }) rfl (fun K hK => ?_) AllReadyH.nil
  go_simp
  refine (jr_crash HJ3.out HL3.out hci (fun j e => HJ3.out.els j e) q.k1 q.k2 q.k3).mono ?_
  rintro e w4 ⟨r1, rfl, hj4, B4⟩
  have hW4 : Wx w4 x d1 r := (B4.block x HW3.out.lt).trans HW3.out
  have hB4 : Bx w4 w.heap.size q := (B4.block _ (Array.getElem?_eq_some_iff.1 HB3.out).1).trans HB3.out
  have HJ4 := hide2 hj4
  have HB4 := hide2 B4
  have t1 := hW4.cells.2
  have tf := Go.Joins.unfrozen_of_block hW4 1
  obtain ⟨-, -, -, -, -, c5, c6, c7⟩ := hB4.cells
  clear hj4 B4
  go_wp2_with fail
  refine hK.out _ _ (⟨c5, c6, c7⟩) (fun hHeld => ?_)
  clear hK K
  try simp only [Act.put, List.setIfInBounds_toArray, List.set_cons_zero, List.set_cons_succ]
  refine wpAnyH_take (i := 8) (oi := { dst := some 224, op := _, type := _, pos := _, after := _, guard := _ }) (v := ?_) rfl (by kernel_rfl) (by kernel_rfl) (by kernel_rfl) (fun _ _ _ h => h) (Or.inl ⟨by rfl, ?_⟩) (by assumption) ?_
  rotate_left 1
  · intro u hSw; obtain ⟨s1, s2, s3⟩ := hSw; go_simp; try with_reducible rfl
  try simp only [Act.put, List.setIfInBounds_toArray, List.set_cons_zero, List.set_cons_succ]
  refine wpAnyH_take (i := 9) (oi := { dst := some 225, op := _, type := _, pos := _, after := _, guard := _ }) (v := ?_) rfl (by kernel_rfl) (by kernel_rfl) (by kernel_rfl) (fun _ _ _ h => h) (Or.inl ⟨by rfl, ?_⟩) (by assumption) ?_
  rotate_left 1
  · intro u hSw; obtain ⟨s1, s2, s3⟩ := hSw; go_simp; try with_reducible rfl
  try simp only [Act.put, List.setIfInBounds_toArray, List.set_cons_zero, List.set_cons_succ]
  refine wpAnyH_ready (rs := [10]) (by kernel_rfl) (by simp) ?_
  refine AllReadyH.cons (o := { dst := none, op := _, type := _, pos := _, after := _, guard := _ }) rfl (fun K hK => ?_) AllReadyH.nil
  go_simp
  have hW5 := hW4.set1 r1
  have hF5 : Fr (fun j => j = x) w4 (w4.setCell ⟨x, 1, none⟩ (.pointer (some ⟨r1, 0, none⟩))) := (Fr.refl (fun j => j = x) w4).setCell (p := ⟨x, 1, none⟩) (.inl rfl) _
  have hB5 : Bx (w4.setCell ⟨x, 1, none⟩ (.pointer (some ⟨r1, 0, none⟩))) w.heap.size q := (hF5.block _ (Array.getElem?_eq_some_iff.1 hB4).1 (fun e => hyx e.symm)).trans hB4
  have hJ5 := HJ4.out.keep (hF5.mono (G := fun j => E j ∨ j = w.heap.size) (fun j _ e => by subst e; exact .inl hE)) (fun j e => .inl e)
  obtain ⟨-, -, -, -, -, e5, e6, e7⟩ := hB5.cells
  refine hK.out _ _ (⟨e5, e6, e7⟩) (fun hHeld => ?_)
  clear hK K
  try simp only [Act.put, List.setIfInBounds_toArray, List.set_cons_zero, List.set_cons_succ]
  refine wpAnyH_done (by kernel_rfl) ?_ _
  refine NoPanic.normal ?_
  clear hHeld e5 e6 e7 c5 c6 c7 b5 b6 b7 t1 tf s1 s2
  generalize w4.setCell ⟨x, 1, none⟩ (.pointer (some ⟨r1, 0, none⟩)) = V5 at *
  have HF5 := hide2 hF5
  have HJ5 := hide2 hJ5
  have HW5 := hide2 hW5
  obtain ⟨s1, s2⟩ := hW5.cells
  clear hF5 hJ5 hW5 hB5 hW4 hB4
  go_wp2
  go_ret
  refine ⟨rfl, d1, r1, _, _, _, HJ5.out.less (fun j e => .inl e), HW5.out, ?_⟩
  have F2 : Fr (fun j => ¬ E j ∨ j = x) _ V := (Fr.below HB2.out).trans HF3.out (fun j hj => .inl (.inr hj))
  have F5 : Fr (fun j => ¬ E j ∨ j = x) _ V5 := (Fr.below HB4.out).trans HF5.out (fun j hj => .inl (.inr hj))
  exact ((HF1.out.drewN 1).trans F2 (fun j hj => .inl hj)).trans (((Fr.refl _ V).drewN 1).trans F5 (fun j hj => .inl hj)) (fun j hj => .inl hj)
end
end Go.Proofs.Ytmggmnbialacbaa
