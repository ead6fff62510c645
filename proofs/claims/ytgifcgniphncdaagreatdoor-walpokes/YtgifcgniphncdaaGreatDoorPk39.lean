/-
  Open.
-/
import Derived.Test.YtgifcgniphncdaaGreatDoorPk30
import Derived.Test.YtgifcgniphncdaaGreatDoorPk35
import Derived.Test.YtgifcgniphncdaaGreatDoorPk38
import Derived.Test.YtgifcgniphncdaaGreatDoorPk29
import Derived.Test.YtgifcgniphncdaaGreatDoorPk37
import Derived.Test.YtgifcgniphncdaaGreatDoorPk24
import Derived.Test.YtgifcgniphncdaaGreatDoorPk20
import Derived.Test.YtgifcgniphncdaaGreatDoorRows
import Derived.ProofKit
import Derived.OpenShut
set_option linter.unusedVariables false
set_option linter.unusedSimpArgs false
namespace Go.Proofs.YtgifcgniphncdaaGreatDoor
open Go.RowKit Go.Maps

/-- What Open answers, and leaves. -/
def OpL (w w' : World) (B : Nat) (D : Nat → Prop) (d : Nat) (S : Dsk) (first : Int) (e : Ending) : Prop :=
  ∃ er x S', OpenR S first er x S' ∧ Fr D w w' ∧
    ((x = none ∧ e = .returned (.tuple #[.pointer none, .slice none 0 0, .int .i64 er]) ∧ DV w' (Land.more D w w') d S') ∨
    ∃ L cs l vc A C, x = some (L, cs) ∧ e = .returned (.tuple #[.pointer (some ⟨l, 0, none⟩), vc, .int .i64 er]) ∧ PM w' B A l d S' L 0 ∧ CRow w' C vc cs ∧ (∀ j, A j → Land.more D w w' j) ∧ (∀ j, C j → w.heap.size ≤ j ∧ j < w'.heap.size ∧ ¬ A j))
theorem gap_eq (P : PD) (first : Int) : gap P first = (segs P).any (gapP first (segs P)) := rfl
theorem DV.up {w w' : World} {D : Nat → Prop} {d : Nat} {S : Dsk} (h : DV w D d S) (hb : Below w.heap.size w w') : DV w' (Land.more D w w') d S := (h.below hb).mono (fun j hj => .inl hj) (more_lt h.lt hb.size)

section
variable {w : World} {B : Nat} {D : Nat → Prop} {d : Nat} {S : Dsk}
set_option maxRecDepth 100000 in
theorem open_arg (hD : DV w D d S) (first : Int) (h : first < 1 ∨ 1073741824 < first) :
    Calls Tryz.prog 17 #[.pointer (some ⟨d, 0, none⟩), .int .i64 first] w fun e w' => OpL w w' B D d S first e := by
  have HR : Hid (OpL w w B D d S first (.returned (.tuple #[.pointer none, .slice none 0 0, .int .i64 2]))) := hid8 ⟨2, none, S, .arg h, Fr.refl _ _, .inl ⟨rfl, rfl, hD.up (Below.refl _ _)⟩⟩
  clear hD
  rcases h with h | h
  · have h1 : decide (first < 1) = true := by simpa using h
    go_enter Tryz.func17, Tryz.ntmps17
    go_wp2
    try simp only [Exit.inBlock, Exit.then]
    refine bodyPost_ret (results_tmp3 rfl _ _ _) rfl ?_
    exact HR.out
  · have h1 : decide (first < 1) = false := by simp; omega
    have h2 : decide (1073741824 < first) = true := by simpa using h
    go_enter Tryz.func17, Tryz.ntmps17
    go_wp2
    try simp only [Exit.inBlock, Exit.then]
    refine bodyPost_ret (results_tmp3 rfl _ _ _) rfl ?_
    exact HR.out
set_option maxRecDepth 100000 in
set_option maxHeartbeats 2000000 in
theorem open_off (hD : DV w D d S) (hB : B ≤ w.heap.size) (hg : Gl B w) (first : Int) (h0 : 1 ≤ first) (h1 : first ≤ 1073741824) (ho : S.o = true) :
    Calls Tryz.prog 17 #[.pointer (some ⟨d, 0, none⟩), .int .i64 first] w fun e w' => OpL w w' B D d S first e := by
  have d1 : decide (first < 1) = false := by simp; omega
  have d2 : decide (1073741824 < first) = false := by simp; omega
  have HN := hid8 (name_any hg first (by omega) (by omega))
  have HD := hid8 hD
  clear hD
  go_enter Tryz.func17, Tryz.ntmps17
  go_wp2_with fail
  refine HN.out.mono ?_
  rintro e w1 ⟨rfl, hb1⟩
  have HRd := hid8 (dv_read (HD.out.below hb1) (nm8 first) (nm8_max first (by omega) (by omega)))
  rw [ho] at HRd
  have hz1 := hb1.size
  have HB1 := hid8 hb1
  clear HN hb1
  go_wp2_with fail
  refine HRd.out.mono ?_
  rintro e w2 ⟨u, rfl, -, hb2⟩
  have HB2 := hid8 (HB1.out.trans (hb2.mono hz1))
  clear HRd hb2 HB1
  simp only [if_true]
  go_wp2
  try simp only [Exit.inBlock, Exit.then]
  refine bodyPost_ret (results_tmp3 rfl _ _ _) rfl ?_
  exact ⟨24, none, S, .off h0 h1 ho, Fr.below HB2.out, .inl ⟨rfl, rfl, HD.out.up HB2.out⟩⟩
end
end Go.Proofs.YtgifcgniphncdaaGreatDoor

/-
  Open: the segments are read, one behind the other; another one is begun.
-/
set_option linter.unusedVariables false
set_option linter.unusedSimpArgs false
namespace Go.Proofs.YtgifcgniphncdaaGreatDoor
open Go.RowKit Go.Maps

section
variable {w : World} {B : Nat} {D : Nat → Prop} {d : Nat} {S : Dsk}
set_option maxRecDepth 100000 in
set_option maxHeartbeats 16000000 in
theorem open_on (hD : DV w D d S) (hDB : ∀ j, D j → B ≤ j) (hB : B ≤ w.heap.size) (hg : Gl B w) (first : Int) (h0 : 1 ≤ first) (h1 : first ≤ 1073741824) (ho : S.o = false) :
    Calls Tryz.prog 17 #[.pointer (some ⟨d, 0, none⟩), .int .i64 first] w fun e w' => OpL w w' B D d S first e := by
  have d1 : decide (first < 1) = false := by simp; omega
  have d2 : decide (1073741824 < first) = false := by simp; omega
  have HN := hid8 (name_any hg first (by omega) (by omega))
  have hinv := hD.inv
  have HLT := hid8 hD.lt
  have HD := hid8 hD
  have HG := hid8 hg
  have HDB := hid8 hDB
  have HSL := hid8 (segs_len hinv)
  have HSM : Hid (∀ n ∈ segs S.P, 1 ≤ n ∧ nm8 n ∈ Land.dnames S.P.now ∧ n < 1000000000000000000) := hid8 (fun n hn => segs_mem hinv hn)
  have HRN : Hid (∀ n ∈ segs S.P, (Land.pread S.P (nm8 n)).1 = 0 ∧ Byt (Land.pread S.P (nm8 n)).2 ∧ (Land.pread S.P (nm8 n)).2.length ≤ 262144) := hid8 (fun n hn => read_name hinv (segs_mem hinv hn).2.1)
  have hcode := pread_code S.P (nm8 first)
  have hpn := hinv.lo
  clear hD hg hDB
  go_enter Tryz.func17, Tryz.ntmps17
  go_wp2_with fail
  refine HN.out.mono ?_
  rintro e w1 ⟨rfl, hb1⟩
  have HRd := hid8 (dv_read (HD.out.below hb1) (nm8 first) (nm8_max first (by omega) (by omega)))
  rw [ho] at HRd
  simp only [Bool.false_eq_true, if_false] at HRd
  have hz1 := hb1.size
  have HB1 := hid8 hb1
  clear HN hb1
  go_wp2_with fail
  refine HRd.out.mono ?_
  rintro e w2 ⟨u, rfl, -, hb2⟩
  have hz2 := hb2.size
  have HB2 := hid8 (HB1.out.trans (hb2.mono hz1))
  have HSO := hid8 (segmentsOn_any (HD.out.below HB2.out) (HG.out.on (HB2.out.mono hB)) (by omega))
  clear HRd hb2 HB1
  generalize (Land.pread S.P (nm8 first)).1 = code at *
  have hcd : (code == 24) = false := by simpa using hcode
  have hcd2 : ¬ code = 24 := hcode
  clear hcode
  go_wp2_with fail
  refine HSO.out.mono ?_
  rintro e w3 ⟨v3, rfl, hr3, hb3⟩
  obtain ⟨at3, ct3, rfl, hsq, hlo3⟩ := hr3.seq
  have hz3 := hb3.size
  have HB3 := hid8 (HB2.out.trans (hb3.mono (by omega)))
  have HGP := hid8 (hasGap_any first hsq (fun n hn => by have := HSM.out n hn; omega))
  rw [← gap_eq] at HGP
  have HSQ := hid8 hsq
  have hsl := HSL.out
  clear HSO hb3 HB2 hr3 hsq hlo3
  go_wp2_with fail
  refine HGP.out.mono ?_
  rintro e w4 ⟨rfl, hb4⟩
  have hz4 := hb4.size
  have HB4 := hid8 (HB3.out.trans (hb4.mono (by omega)))
  have HSQ4 := hid8 (HSQ.out.keep hb4)
  clear HGP hb4 HB3 HSQ
  generalize hns : (segs S.P).length = nl at *
  cases hgap : gap S.P first with
  | true =>
    go_wp2
    go_ret3
    exact ⟨81, none, S, .gap h0 h1 ho hgap, Fr.below HB4.out, .inl ⟨rfl, rfl, HD.out.up HB4.out⟩⟩
  | false =>
    have HGF := hid8 hgap
    have hzl : w.heap.size ≤ w4.heap.size := HB4.out.size
    have m5 : Rm (w4.alloc (.cells #[.bool false, .int .u64 0, .slice none 0 0] 97)) w4.heap.size (.slice none 0 0) ⟨false, 0, []⟩ := heap_alloc_new w4 _
    have b5 : Below w4.heap.size w4 (w4.alloc (.cells #[.bool false, .int .u64 0, .slice none 0 0] 97)) := (Below.refl _ _).alloc (Nat.le_refl _) _
    have HM5 := hid8 m5
    have HB5 := hid8 b5
    have hgf : first ≤ first := Int.le_refl _
    have hup := upTo_le (segs S.P) first
    clear m5 b5 hgap
    go_wp2
    go_loopw [11, 12, 13] (fun i _ _ wr => ∃ (n : Int) (R : Rdr) (v : Value), i = .int .i64 n ∧ first ≤ n ∧ (n - first).toNat + upTo (segs S.P) n ≤ 64 ∧ R.next < 18446744073709551616 ∧ R.cs.length ≤ 10000 * (n - first).toNat ∧ Hid (∀ x, Rds S.P n R x → Rds S.P first ⟨false, 0, []⟩ x) ∧ Rm wr w4.heap.size v R ∧ CRow wr (fun j => w4.heap.size < j ∧ j < wr.heap.size) v R.cs ∧ Below w4.heap.size w4 wr) (fun i _ _ _ => upTo (segs S.P) (intOf i))
    case atStart => exact ⟨first, _, _, rfl, hgf, by omega, by decide, by simp, hid8 (fun x h => h), HM5.out, CRow.nil _ _, HB5.out⟩
    case round =>
      clear HM5 HB5
      obtain ⟨n, R, v, rfl, hfn, hcnt, hnx, hcs, hrd, hm, hc, hb⟩ := hrel
      have hsz := hb.size
      have hrl := hm.lt
      have hn64 : (n - first).toNat ≤ 64 := by omega
      have HSr := hid8 (HSQ4.out.keep hb)
      have HCn := hid8 (sContains_any HSr.out n)
      have HBw := hid8 (HB4.out.trans (hb.mono (by omega)))
      have HM := hid8 hm
      have HC := hid8 hc
      have HBr := hid8 hb
      obtain ⟨wR, hwR⟩ : ∃ x, x = wr := ⟨_, rfl⟩
      subst hwR
      clear hm hc hb
      by_cases hmem : n ∈ segs S.P
      · have hct : (segs S.P).contains n = true := by simpa using hmem
        rw [hct] at HCn
        have HNn := hid8 (name_any (HG.out.on (HBw.out.mono hB)) n (by omega) (by omega))
        obtain ⟨p1, p2, p3⟩ := HRN.out n hmem
        have hupn := upTo_next _ n hmem
        have hw : IntKind.i64.wrap (n + 1) = n + 1 := by rw [IntKind.wrap_i64]; omega
        have HMEM := hid8 hmem
        clear hct hmem
        go_wp2_with fail
        refine HCn.out.mono ?_
        rintro e wx ⟨rfl, rfl⟩
        clear HCn
        go_wp2_with fail
        refine HNn.out.mono ?_
        rintro e w6 ⟨rfl, hb6⟩
        have hz6 := hb6.size
        have HB6 := hid8 (HBw.out.trans (hb6.mono (by omega)))
        have HRd := hid8 (dv_read (HD.out.below HB6.out) (nm8 n) (nm8_max n (by omega) (by omega)))
        rw [ho] at HRd
        simp only [Bool.false_eq_true, if_false] at HRd
        rw [p1] at HRd
        have HM6 := hid8 (HM.out.below hb6)
        have HC6 := hid8 (HC.out.below hb6)
        have HBr6 := hid8 (HBr.out.trans (hb6.mono hsz))
        clear HNn hb6 HM HC HBr HBw
        go_wp2_with fail
        refine HRd.out.mono ?_
        rintro e w7 ⟨u, rfl, hO7, hb7⟩
        have hz7 := hb7.size
        obtain ⟨a7, c7, rfl, sl7, lo7⟩ := hO7.sl p2
        have HRR := hid8 (rread_any (A := fun j => w4.heap.size < j ∧ j < wx.heap.size) sl7 p3 (HM6.out.below hb7) hnx (HC6.out.below hb7) (by omega) (fun e => by have := e.1; omega) (fun j hj => by have := hj.2; omega) n (by omega) (by omega) (fun _ b off e k => by have := lo7 b off e; omega))
        have HB7 := hid8 (HB6.out.trans (hb7.mono (by omega)))
        have HBr7 := hid8 (HBr6.out.trans (hb7.mono (by omega)))
        clear HRd hb7 HM6 HC6 HBr6 HB6 hO7 sl7 lo7
        generalize hXL : (Land.pread S.P (nm8 n)).2.length = xl at *
        go_wp2_with fail
        refine HRR.out.mono ?_
        rintro e w8 ⟨hres, hf8⟩
        have hz8 := hf8.size
        have HBr8 := hid8 (HBr7.out.trans (hf8.to (n := w4.heap.size) (fun k hk e => by rcases e with e | e; have := e.1; omega; omega) (by omega)))
        have HB8 := hid8 (HB4.out.trans (HBr8.out.mono (by omega)))
        clear HRR hf8 HBr7 HB7
        rcases hres with ⟨R', v', hseg, rfl, hm8, hc8⟩ | ⟨hseg, rfl⟩
        · have hmo := segR_more p2 (by omega) hnx hseg
          have HM8 := hid8 hm8
          have HC8 := hid8 (hc8.mono (A' := fun j => w4.heap.size < j ∧ j < w8.heap.size) (fun j hj q => by
            rcases q with q | q
            · exact ⟨q.1, hj⟩
            · exact ⟨by have := q.1; omega, hj⟩))
          have HR8 : Hid (∀ x, Rds S.P (n + 1) R' x → Rds S.P first ⟨false, 0, []⟩ x) := hid8 (fun x h => hrd.out x (.go HMEM.out hseg h))
          clear hm8 hc8 hseg
          go_wp2
          go_roundw
          case rel => exact ⟨n + 1, R', v', rfl, by omega, by omega, hmo.1, by omega, HR8, HM8.out, HC8.out, HBr8.out⟩
          case measure =>
            show upTo (segs S.P) (intOf (.int .i64 _)) < upTo (segs S.P) n
            simp only [intOf]
            try rw [hw]
            omega
        · have HR8 : Hid (Rds S.P first ⟨false, 0, []⟩ none) := hid8 (hrd.out none (.bad HMEM.out hseg))
          clear hseg
          go_wp2
          go_ret3
          exact ⟨81, none, S, .bad h0 h1 ho HGF.out HR8.out, Fr.below HB8.out, .inl ⟨rfl, rfl, HD.out.up HB8.out⟩⟩
      · have hct : (segs S.P).contains n = false := by simpa using hmem
        rw [hct] at HCn
        have HRS : Hid (Rds S.P first ⟨false, 0, []⟩ (some (n, R))) := hid8 (hrd.out _ (.stop hmem))
        obtain ⟨t1, t2, t3⟩ := HM.out.cells
        have m6 : Lm (wR.alloc (.cells #[.pointer (some ⟨d, 0, none⟩), .int .i64 0, .int .u64 (R.next : Int), .slice none 0 0, .int .i64 0, .int .i64 0, .int .i64 0, .int .i64 0] 102)) wR.heap.size d (.slice none 0 0) ⟨0, R.next, [], 0, 0, 0, 0⟩ := heap_alloc_new wR _
        have b6 : Below wR.heap.size wR (wR.alloc (.cells #[.pointer (some ⟨d, 0, none⟩), .int .i64 0, .int .u64 (R.next : Int), .slice none 0 0, .int .i64 0, .int .i64 0, .int .i64 0, .int .i64 0] 102)) := (Below.refl _ _).alloc (Nat.le_refl _) _
        have z6 : (wR.alloc (.cells #[.pointer (some ⟨d, 0, none⟩), .int .i64 0, .int .u64 (R.next : Int), .slice none 0 0, .int .i64 0, .int .i64 0, .int .i64 0, .int .i64 0] 102)).heap.size = wR.heap.size + 1 := by simp
        have hzw := HBw.out.size
        have HB6 := hid8 (HBw.out.trans (b6.mono (by omega)))
        have hnD : ¬ D wR.heap.size := fun e => by have := HLT.out _ e; omega
        have HBG := hid8 (begin_any (HD.out.below HB6.out) m6 hnD (by omega) (by omega) HDB.out (HG.out.on (HB6.out.mono hB)) n (by omega) (by omega) hnx)
        have HM6 := hid8 (HM.out.below b6)
        have HC6 := hid8 (HC.out.below b6)
        clear hct hmem m6 HM HC HBr
        go_wp2_with fail
        refine HCn.out.mono ?_
        rintro e wx ⟨rfl, rfl⟩
        clear HCn
        go_wp2_with fail
        clear b6
        generalize hW6 : wx.alloc (.cells #[.pointer (some ⟨d, 0, none⟩), .int .i64 0, .int .u64 (R.next : Int), .slice none 0 0, .int .i64 0, .int .i64 0, .int .i64 0, .int .i64 0] 102) = w6 at *
        refine HBG.out.mono ?_
        rintro e w7 ⟨rfl, hd7, hl7, hf7⟩
        have hz7 := hf7.size
        have HF7 : Hid (Fr D w w7) := hid8 (((Fr.refl D w).trans (Fr.below HB6.out) (fun j e => .inl e)).trans hf7 (fun j e => by
          rcases e with e | e
          · exact .inl e
          · exact .inr (by omega)))
        have HD7 := hid8 hd7
        have HL7 := hid8 hl7
        have HMF := hid8 hf7
        clear HBG hd7 hl7 hf7
        generalize hRb : beg S n R.next = Rb at *
        have HRb := hid8 hRb
        clear hRb hW6
        obtain ⟨x, Sb⟩ := Rb
        by_cases hx : x = 0
        · subst hx
          have hnr : ∀ j, (D j ∨ j = wx.heap.size) → ¬ (w4.heap.size ≤ j ∧ j < wx.heap.size) := fun j e k => by
            rcases e with e | e
            · have := HLT.out j e; omega
            · omega
          have HM7 := hid8 (HM6.out.same (HMF.out.block w4.heap.size (by omega) (fun e => hnr _ e ⟨Nat.le_refl _, by omega⟩)))
          have HC7 := hid8 (HC6.out.same (fun j hj => HMF.out.block j (by have := hj.2; omega) (fun e => hnr j e ⟨by have := hj.1; omega, hj.2⟩)))
          obtain ⟨y1, y2, y3⟩ := HM7.out.cells
          have hr7 := HM7.out.lt
          obtain ⟨av, cv, rfl⟩ := HC7.out.len
          have HOP : Hid (OpenR S first 0 (some (Lg.new n R.next, R.cs)) Sb) := hid8 (by
            have := OpenR.ok h0 h1 ho HGF.out HRS.out (by rw [HRb.out])
            rwa [HRb.out] at this)
          have HGL : Hid (Gl B w7) := hid8 (HG.out.on (HF7.out.to (fun k hk e => by have := HDB.out k e; omega) hB))
          generalize hCL : R.cs.length = cl at *
          clear t1 t2 t3 hnr
          have PM7 : PM w7 B (fun j => Land.more D w6 w7 j ∨ j = wx.heap.size) wx.heap.size d Sb (Lg.new n R.next) 0 := by
            refine ⟨⟨Land.more D w6 w7, .slice none 0 0, HD7.out, HL7.out, Wt.nil _ _, fun j hj => ⟨.inl hj, fun e => ?_⟩⟩, .inr rfl, fun j hj => ?_, by omega, HGL.out, ⟨?_, ?_, fun _ => ?_, Nat.mod_lt _ (by decide), Nat.zero_le _, Nat.le_refl _, by omega, fun b hb => by cases hb⟩⟩
            · rcases hj with q | q
              · have := HLT.out j q; omega
              · have := q.1; omega
            · rcases hj with (q | q) | q
              · exact ⟨HDB.out j q, by have := HLT.out j q; omega⟩
              · exact ⟨by have := q.1; omega, q.2⟩
              · exact ⟨by omega, by omega⟩
            · show 1 ≤ n
              omega
            · show n ≤ 1099511627776
              omega
            · show n ≤ 1073741924 + Sb.P.n
              have := HD7.out.inv.lo
              simp only at this
              omega
          have HPM := hid8 PM7
          clear PM7
          go_wp2
          go_region
          go_wp2
          go_ret3
          refine ⟨0, _, Sb, HOP.out, HF7.out.drewN 1, .inr ⟨Lg.new n R.next, R.cs, wx.heap.size, _, (fun j => Land.more D w6 w7 j ∨ j = wx.heap.size), (fun j => w4.heap.size < j ∧ j < wx.heap.size), rfl, rfl, HPM.out.below (below_drew w7), HC7.out.below (below_drew w7), fun j hj => ?_, fun j hj => ⟨by have := hj.1; omega, by have := hj.2; show j < w7.heap.size; omega, fun k => ?_⟩⟩⟩
          · rcases hj with (q | q) | q
            · exact .inl q
            · exact .inr ⟨by have := q.1; omega, q.2⟩
            · exact .inr ⟨by omega, by show j < w7.heap.size; omega⟩
          · rcases k with (q | q) | q
            · have := HLT.out j q; have := hj.1; omega
            · have := q.1; have := hj.2; omega
            · have := hj.2; omega
        · have hxb : (x != 0) = true := by simpa using hx
          have HOP : Hid (OpenR S first x none Sb) := hid8 (by
            have := OpenR.err h0 h1 ho HGF.out HRS.out (by rw [HRb.out]; exact hx)
            rwa [HRb.out] at this)
          go_wp2
          go_ret3
          exact ⟨x, none, Sb, HOP.out, HF7.out, .inl ⟨rfl, rfl, HD7.out.mono (fun j hj => more_up (by omega) hj) (more_lt HLT.out HF7.out.size)⟩⟩
theorem walOpen_any (hD : DV w D d S) (hDB : ∀ j, D j → B ≤ j) (hB : B ≤ w.heap.size) (hg : Gl B w) (first : Int) :
    Calls Tryz.prog 17 #[.pointer (some ⟨d, 0, none⟩), .int .i64 first] w fun e w' => OpL w w' B D d S first e := by
  by_cases h : first < 1 ∨ 1073741824 < first
  · exact open_arg hD first h
  · cases ho : S.o with
    | true => exact open_off hD hB hg first (by omega) (by omega) ho
    | false => exact open_on hD hDB hB hg first (by omega) (by omega) ho
end
end Go.Proofs.YtgifcgniphncdaaGreatDoor

/-
  'shown': the document's examples.
-/
set_option linter.unusedVariables false
set_option linter.unusedSimpArgs false
namespace Go.Proofs.YtgifcgniphncdaaGreatDoor
open Go.RowKit Go.Maps

set_option maxRecDepth 100000 in
set_option maxHeartbeats 2000000 in
theorem one_any (t : Int) (w : World) : Calls Tryz.prog 34 #[.int .i64 t] w fun e w' => ∃ ao, e = .returned (.agg #[.int .i64 t, .slice ao 1 1]) ∧ Seq 3 Wr.cells w' ao 1 1 [w1x] ∧ Below w.heap.size w w' := by
  have z0 : (w.alloc (.cells #[.int .i64 0, .slice none 0 0] 37)).heap.size = w.heap.size + 1 := by simp
  have k0 := heap_alloc_new w (.cells #[.int .i64 0, .slice none 0 0] 37)
  have k1 := heap_alloc_new (w.alloc (.cells #[.int .i64 0, .slice none 0 0] 37)) (.cells #[.string ⟨#[97]⟩, .string ⟨#[120]⟩, .bool false] 85)
  rw [z0] at k1
  have W0 : Below w.heap.size w ((w.alloc (.cells #[.int .i64 t, .slice (some ⟨w.heap.size + 1, 0, none⟩) 1 1] 37)).alloc (.cells #[.string ⟨#[97]⟩, .string ⟨#[120]⟩, .bool false] 85)) := ((Below.refl _ _).alloc (Nat.le_refl _) _).alloc (by simp) _
  have za : (w.alloc (.cells #[.int .i64 t, .slice (some ⟨w.heap.size + 1, 0, none⟩) 1 1] 37)).heap.size = w.heap.size + 1 := by simp
  have ka : ((w.alloc (.cells #[.int .i64 t, .slice (some ⟨w.heap.size + 1, 0, none⟩) 1 1] 37)).alloc (.cells #[.string ⟨#[97]⟩, .string ⟨#[120]⟩, .bool false] 85)).heap[w.heap.size]? = some (.cells #[.int .i64 t, .slice (some ⟨w.heap.size + 1, 0, none⟩) 1 1] 37 (0, 0)) := (Below.heap_alloc _ _ _ (by omega)).trans (heap_alloc_new w _)
  have kb := heap_alloc_new (w.alloc (.cells #[.int .i64 t, .slice (some ⟨w.heap.size + 1, 0, none⟩) 1 1] 37)) (.cells #[.string ⟨#[97]⟩, .string ⟨#[120]⟩, .bool false] 85)
  rw [za] at kb
  have HQ : Hid (Seq 3 Wr.cells ((w.alloc (.cells #[.int .i64 t, .slice (some ⟨w.heap.size + 1, 0, none⟩) 1 1] 37)).alloc (.cells #[.string ⟨#[97]⟩, .string ⟨#[120]⟩, .bool false] 85)) (some ⟨w.heap.size + 1, 0, none⟩) 1 1 [w1x]) := hid8 (by
    refine ⟨rfl, Nat.le_refl _, by unfold maxLen; omega, fun _ => ⟨_, _, rfl, by simp, fun i x hi j u hj => ?_⟩⟩
    have hi0 : i = 0 := by
      have := (List.getElem?_eq_some_iff.1 hi).1
      simp at this
      omega
    subst hi0
    simp only [List.getElem?_cons_zero, Option.some.injEq] at hi
    subst hi
    rw [Go.Joins.cell_of_block kb, show 0 + 0 * 3 + j = j from by omega]
    match j, hj with
    | 0, hj => simpa [Wr.cells, w1x] using hj
    | 1, hj => simpa [Wr.cells, w1x] using hj
    | 2, hj => simpa [Wr.cells, w1x] using hj)
  have HB := hid8 W0
  have y0 : ((w.alloc (.cells #[.int .i64 t, .slice (some ⟨w.heap.size + 1, 0, none⟩) 1 1] 37)).alloc (.cells #[.string ⟨#[97]⟩, .string ⟨#[120]⟩, .bool false] 85)).cell? ⟨w.heap.size, 0, none⟩ = some (.int .i64 t) := by rw [Go.Joins.cell_of_block ka]; rfl
  have y1 : ((w.alloc (.cells #[.int .i64 t, .slice (some ⟨w.heap.size + 1, 0, none⟩) 1 1] 37)).alloc (.cells #[.string ⟨#[97]⟩, .string ⟨#[120]⟩, .bool false] 85)).cell? ⟨w.heap.size, 1, none⟩ = some (.slice (some ⟨w.heap.size + 1, 0, none⟩) 1 1) := by rw [Go.Joins.cell_of_block ka]; rfl
  clear W0 ka kb za
  go_enter Tryz.func34, Tryz.ntmps34
  go_wp2
  generalize (w.alloc (.cells #[.int .i64 t, .slice (some ⟨w.heap.size + 1, 0, none⟩) 1 1] 37)).alloc (.cells #[.string ⟨#[97]⟩, .string ⟨#[120]⟩, .bool false] 85) = W at *
  refine bodyPost_ret (v := .agg #[.int .i64 t, .slice (some ⟨w.heap.size + 1, 0, none⟩) 1 1]) (by simp [results, Tryz.results34, go_sem, y0, y1]) rfl ⟨_, rfl, HQ.out, HB.out⟩

/-! ### A log, wherever its blocks lie -/
def PX (w : World) (B l d : Nat) (S : Dsk) (L : Lg) (N : Nat) : Prop := ∃ A, PM w B A l d S L N
section
variable {w w' : World} {B : Nat} {l d : Nat} {S : Dsk} {L : Lg} {N : Nat}
theorem Gl.up {w : World} {B B' : Nat} (h : Gl B w) (hb : B ≤ B') : Gl B' w := fun w' hw => h w' (hw.mono hb)
theorem PM.bel {A : Nat → Prop} (h : PM w B A l d S L N) (F : Fr A w w') : Below B w w' := F.to (fun k hk e => by have := (h.lo k e).1; omega) h.bw
theorem PX.below (h : PX w B l d S L N) (hb : Below w.heap.size w w') : PX w' B l d S L N := by
  obtain ⟨A, h⟩ := h
  exact ⟨A, h.below hb⟩
theorem PX.bw (h : PX w B l d S L N) : B ≤ w.heap.size := by
  obtain ⟨A, h⟩ := h
  exact h.bw
theorem pxPut (h : PX w B l d S L N) (hN : N < 1000000) {ao : Option Addr} {len cap : Nat} {ws : List Wr} (hs : Seq 3 Wr.cells w ao len cap ws) (t : Int) :
    Calls Tryz.prog 33 #[.pointer (some ⟨l, 0, none⟩), .agg #[.int .i64 t, .slice ao len cap]] w fun e w' => e = .returned (.tuple #[.int .i64 (L.put ⟨t, ws⟩).1.1, .int .i64 (L.put ⟨t, ws⟩).1.2]) ∧ PX w' B l d S (L.put ⟨t, ws⟩).2 (N + 1) ∧ Below B w w' := by
  obtain ⟨A, h⟩ := h
  refine (walPut_any h hN hs t).mono ?_
  rintro e w' ⟨rfl, hp, hf⟩
  exact ⟨rfl, ⟨_, hp⟩, h.bel hf⟩
theorem pxFlush (h : PX w B l d S L N) : Calls Tryz.prog 35 #[.pointer (some ⟨l, 0, none⟩)] w fun e w' => e = .returned (.tuple #[.bool (L.flush S).1.1, .int .i64 (L.flush S).1.2]) ∧ PX w' B l d (L.flush S).2.2 (L.flush S).2.1 N ∧ Below B w w' := by
  obtain ⟨A, h⟩ := h
  refine (walFlush_any h).mono ?_
  rintro e w' ⟨rfl, hp, hf⟩
  exact ⟨rfl, ⟨_, hp⟩, h.bel hf⟩
theorem pxRotate (h : PX w B l d S L N) : Calls Tryz.prog 30 #[.pointer (some ⟨l, 0, none⟩)] w fun e w' => e = .returned (.tuple #[.int .i64 (L.turn S).1.1, .int .i64 (L.turn S).1.2]) ∧ PX w' B l d (L.turn S).2.2 (L.turn S).2.1 N ∧ Below B w w' := by
  obtain ⟨A, h⟩ := h
  refine (walRotate_any h).mono ?_
  rintro e w' ⟨rfl, hp, hf⟩
  exact ⟨rfl, ⟨_, hp⟩, h.bel hf⟩
theorem pxFlushed (h : PX w B l d S L N) : Calls Tryz.prog 21 #[.pointer (some ⟨l, 0, none⟩)] w fun e w' => e = .returned (.int .i64 (L.done : Int)) ∧ w' = w := by
  obtain ⟨A, h⟩ := h
  exact pmFlushed_any h
theorem pxOps (h : PX w B l d S L N) : Calls Tryz.prog 24 #[.pointer (some ⟨d, 0, none⟩)] w fun e w' => e = .returned (.int .i64 S.P.n) ∧ w' = w := by
  obtain ⟨A, ⟨⟨D, v, h1, h2, h3, h4⟩, h5, h6, h7, h8, h9⟩⟩ := h
  exact dv_ops h1
end
end Go.Proofs.YtgifcgniphncdaaGreatDoor

/-
  Slices of commits that are read; SameCommits, begins, pick. (Printed by gen_w28.py.)
-/
set_option linter.unusedVariables false
set_option linter.unusedSimpArgs false
namespace Go.Proofs.YtgifcgniphncdaaGreatDoor
open Go.RowKit Go.Maps

/-- A slice of commits that is read; Z: whose blocks matter. -/
def CS (w : World) (Z : Nat → Prop) (ao : Option Addr) (len cap : Nat) (cs : List Cm) : Prop :=
  cs.length = len ∧ len ≤ cap ∧ cap ≤ maxLen ∧
  (0 < len → ∃ b off, ao = some ⟨b, off, none⟩ ∧ b < w.heap.size ∧ Z b ∧ ∀ (i : Nat) (c : Cm), cs[i]? = some c → ∃ au lu cu, w.cell? ⟨b, off + i * 2, none⟩ = some (.int .i64 c.time) ∧ w.cell? ⟨b, off + i * 2 + 1, none⟩ = some (.slice au lu cu) ∧ Seq 3 Wr.cells w au lu cu c.ws ∧ (0 < lu → ∀ g o, au = some ⟨g, o, none⟩ → Z g))
section
variable {w w' : World} {Z : Nat → Prop} {ao : Option Addr} {len cap : Nat} {cs : List Cm}
theorem CS.keep (h : CS w Z ao len cap cs) (hs : w.heap.size ≤ w'.heap.size) (hZ : ∀ j, j < w.heap.size → Z j → w'.heap[j]? = w.heap[j]?) : CS w' Z ao len cap cs := by
  obtain ⟨h1, h2, h3, h4⟩ := h
  refine ⟨h1, h2, h3, fun hl => ?_⟩
  obtain ⟨b, off, e, hlt, hz, hc⟩ := h4 hl
  refine ⟨b, off, e, by omega, hz, fun i c hi => ?_⟩
  obtain ⟨au, lu, cu, q1, q2, q3, q4⟩ := hc i c hi
  refine ⟨au, lu, cu, (World.cell?_of_block (hZ b hlt hz)).trans q1, (World.cell?_of_block (hZ b hlt hz)).trans q2, ?_, q4⟩
  obtain ⟨g1, g2, g3, g5⟩ := q3
  refine ⟨g1, g2, g3, fun hl2 => ?_⟩
  obtain ⟨b2, o2, e2, hlt2, hc2⟩ := g5 hl2
  exact ⟨b2, o2, e2, by omega, fun i x hi j u hj => (World.cell?_of_block (hZ b2 hlt2 (q4 hl2 b2 o2 e2))).trans (hc2 i x hi j u hj)⟩
theorem CS.below (h : CS w Z ao len cap cs) (hb : Below w.heap.size w w') : CS w' Z ao len cap cs := h.keep hb.size (fun j hj _ => hb.block j hj)
theorem CS.mono {Z' : Nat → Prop} (h : CS w Z ao len cap cs) (hZ : ∀ j, Z j → Z' j) : CS w Z' ao len cap cs := by
  obtain ⟨h1, h2, h3, h4⟩ := h
  refine ⟨h1, h2, h3, fun hl => ?_⟩
  obtain ⟨b, off, e, hlt, hz, hc⟩ := h4 hl
  refine ⟨b, off, e, hlt, hZ b hz, fun i c hi => ?_⟩
  obtain ⟨au, lu, cu, q1, q2, q3, q4⟩ := hc i c hi
  exact ⟨au, lu, cu, q1, q2, q3, fun h g o e => hZ g (q4 h g o e)⟩
theorem seq_of_row {α : Type} {f : α → List Value} {k : Nat} {base : Nat} {e : TypeId} {ao : Option Addr} {ln cp : Nat} {l : List α} (h : w.ownsRow base e k (.slice ao ln cp) l.length (l.flatMap f)) (hf : ∀ x, (f x).length = k) (hk : 0 < k) : Seq k f w ao ln cp l := by
  have hat : ∀ (l : List α) (i : Nat) (x : α), l[i]? = some x → ∀ j u, (f x)[j]? = some u → (l.flatMap f)[i * k + j]? = some u := by
    intro l
    induction l with
    | nil => intro i x hi; cases hi
    | cons y r ih =>
      intro i x hi j u hj
      cases i with
      | zero =>
        simp only [List.getElem?_cons_zero, Option.some.injEq] at hi
        subst hi
        rw [List.flatMap_cons, Nat.zero_mul, Nat.zero_add, List.getElem?_append_left (List.getElem?_eq_some_iff.1 hj).1]
        exact hj
      | succ i =>
        rw [List.getElem?_cons_succ] at hi
        rw [List.flatMap_cons, List.getElem?_append_right (by rw [hf, Nat.succ_mul]; omega), hf, show (i + 1) * k + j - k = i * k + j from by rw [Nat.succ_mul]; omega]
        exact ih i x hi j u hj
  rcases h.2 with ⟨hv, h0⟩ | ⟨g, cap', cur, hv, _, hh, hn, hm, hs, ht⟩
  · simp only [Value.slice.injEq] at hv
    obtain ⟨rfl, rfl, rfl⟩ := hv
    exact ⟨h0, Nat.le_refl _, Nat.zero_le _, fun h => absurd h (by omega)⟩
  · simp only [Value.slice.injEq] at hv
    obtain ⟨rfl, rfl, rfl⟩ := hv
    refine ⟨rfl, hn, hm, fun _ => ⟨g, 0, rfl, (Array.getElem?_eq_some_iff.1 hh).1, fun i x hi j u hj => ?_⟩⟩
    have h1 := hat l i x hi j u hj
    have hj2 := (List.getElem?_eq_some_iff.1 hj).1
    rw [hf] at hj2
    have hil := (List.getElem?_eq_some_iff.1 hi).1
    have hlt : i * k + j < l.length * k := by
      have : (i + 1) * k ≤ l.length * k := Nat.mul_le_mul_right k hil
      rw [Nat.succ_mul] at this
      omega
    rw [Go.Joins.cell_of_block hh, ← Array.getElem?_toList, Nat.zero_add]
    have e1 : (cur.toList.take (l.length * k))[i * k + j]? = (l.flatMap f)[i * k + j]? := by rw [ht]
    rw [List.getElem?_take_of_lt hlt] at e1
    rw [e1]
    exact h1
/-- What Open tells is read so. -/
theorem CRow.read8 {A : Nat → Prop} {v : Value} (h : CRow w A v cs) : ∃ ao cap, v = .slice ao cs.length cap ∧ CS w A ao cs.length cap cs := by
  obtain ⟨ps, h0, h1, h2, h3⟩ := h
  have el : cs.length = ps.length := by rw [← h0]; simp
  obtain ⟨ao, ln, cp, rfl⟩ := erow_form h1
  have hsq := seq_of_row h1 (fun _ => rfl) (by decide)
  have eln : ln = cs.length := by rw [el]; exact hsq.1.symm
  subst eln
  refine ⟨ao, cp, rfl, rfl, hsq.2.1, hsq.2.2.1, fun hl => ?_⟩
  obtain ⟨b, off, rfl, hlt, hc⟩ := hsq.2.2.2 hl
  refine ⟨b, off, rfl, hlt, h2 b rfl, fun i c hi => ?_⟩
  have hil : i < ps.length := by rw [← el]; exact (List.getElem?_eq_some_iff.1 hi).1
  obtain ⟨p, hp⟩ : ∃ p, ps[i]? = some p := ⟨ps[i], List.getElem?_eq_getElem hil⟩
  have ec : p.1 = c := by
    rw [← h0, List.getElem?_map, hp] at hi
    simpa using hi
  subst ec
  obtain ⟨q1, q2⟩ := h3 p (List.mem_of_getElem? hp)
  obtain ⟨au, lu, cu, e⟩ := erow_form q1
  have c0 := hc i p hp 0 _ rfl
  have c1 := hc i p hp 1 _ rfl
  rw [e] at c1 q1 q2
  refine ⟨au, lu, cu, by simpa using c0, c1, seq_of_row q1 (fun _ => rfl) (by decide), fun _ g o e2 => q2 g (by rw [e2]; rfl)⟩
/-! ### pick -/
def pkn (c : Int) (n : Int) : Int := if c < 0 then (-(c + 1)) % n else c % n
theorem reti8 {a b : Int} (h : a = b) : Ending.returned (.int .i64 a) = .returned (.int .i64 b) := by rw [h]
set_option maxRecDepth 100000 in
theorem pick8_any (c n : Int) (h0 : -9223372036854775808 ≤ c) (h1 : c ≤ 9223372036854775807) (hn : 0 < n) (hn2 : n ≤ 1000) (w : World) : Calls Tryz.prog 19 #[.int .i64 c, .int .i64 n] w fun e w' => e = .returned (.int .i64 (pkn c n)) ∧ w' = w := by
  have hn0 : ¬ n = 0 := by omega
  have hn1 : ¬ n = -1 := by omega
  unfold pkn
  by_cases hc : c < 0
  · have hd : decide (c < 0) = true := by simpa using hc
    rw [if_pos hc]
    have w1 : IntKind.i64.wrap (c + 1) = c + 1 := by rw [IntKind.wrap_i64]; omega
    have w2 : IntKind.i64.wrap (-(c + 1)) = -(c + 1) := by rw [IntKind.wrap_i64]; omega
    have w3 : IntKind.i64.wrap ((-(c + 1)).tmod n) = (-(c + 1)).tmod n := by
      have a := Int.tmod_nonneg (a := -(c + 1)) n (by omega)
      have b := Int.tmod_lt_of_pos (-(c + 1)) hn
      rw [IntKind.wrap_i64]; omega
    go_enter Tryz.func19, Tryz.ntmps19
    go_wp2
    go_ret
    refine ⟨reti8 ?_, rfl⟩
    rw [← Int.tmod_eq_emod_of_nonneg (by omega), Int.neg_tmod]
  · have hd : decide (c < 0) = false := by simpa using hc
    rw [if_neg hc]
    have w3 : IntKind.i64.wrap (c.tmod n) = c.tmod n := by
      have a := Int.tmod_nonneg (a := c) n (by omega)
      have b := Int.tmod_lt_of_pos c hn
      rw [IntKind.wrap_i64]; omega
    go_enter Tryz.func19, Tryz.ntmps19
    go_wp2
    go_ret
    exact ⟨rfl, rfl⟩

set_option maxRecDepth 100000 in
set_option maxHeartbeats 4000000 in
theorem sameCommits_any {bo : Option Addr} {lb cb : Nat} {Z' : Nat → Prop} (ha : CS w Z ao len cap cs) (hb : CS w Z' bo lb cb cs) :
    Calls Tryz.prog 26 #[.slice ao len cap, .slice bo lb cb] w fun e w' => e = .returned (.bool true) ∧ Below w.heap.size w w' := by
  obtain rfl : len = lb := ha.1.symm.trans hb.1
  have hlen : (len : Int) ≤ 9223372036854775807 := by have := ha.2.1; have := ha.2.2.1; unfold maxLen at this; omega
  have HA := hid8 ha
  have HBc := hid8 hb
  have HL : Hid (cs.length = len) := hid8 ha.1
  clear ha hb
  go_enter Tryz.func26, Tryz.ntmps26
  go_wp2
  go_loopw [5, 6] (fun i _ wr => ∃ k : Nat, k ≤ len ∧ i = .int .i64 (k : Int) ∧ Below w.heap.size w wr) (fun i _ _ => len - (intOf i).toNat)
  case atStart => exact ⟨0, by omega, rfl, Below.refl _ _⟩
  case round =>
    obtain ⟨k, hk, rfl, hbw⟩ := hrel
    obtain ⟨wR, hwR⟩ : ∃ x, x = wr := ⟨_, rfl⟩
    subst hwR
    have hsz := hbw.size
    by_cases hkl : k < len
    · have hkl2 : (k : Int) < (len : Int) := by omega
      obtain ⟨c, hc⟩ : ∃ c, cs[k]? = some c := ⟨cs[k]'(by have := HL.out; omega), List.getElem?_eq_getElem _⟩
      obtain ⟨b1, o1, rfl, hlt1, -, hc1⟩ := (HA.out.below hbw).2.2.2 (by omega)
      obtain ⟨b2, o2, rfl, hlt2, -, hc2⟩ := (HBc.out.below hbw).2.2.2 (by omega)
      obtain ⟨a1, l1, e1, x1, x2, q1, -⟩ := hc1 k c hc
      obtain ⟨a2, l2, e2, y1, y2, q2, -⟩ := hc2 k c hc
      have HQ1 := hid8 (q1.keep (below_drew wR))
      have HQ2 := hid8 (q2.keep (below_drew wR))
      have HBW := hid8 hbw
      clear hc1 hc2 q1 q2 hbw hc
      go_wp2
      refine wp_region_noPanic ?_
      refine wp_region_held_drew (S := (fun u : World => u.cell? ⟨b1, o1 + k * 2, none⟩ = some (.int .i64 c.time) ∧ u.cell? ⟨b1, o1 + k * 2 + 1, none⟩ = some (.slice a1 l1 e1) ∧ u.cell? ⟨b2, o2 + k * 2, none⟩ = some (.int .i64 c.time) ∧ u.cell? ⟨b2, o2 + k * 2 + 1, none⟩ = some (.slice a2 l2 e2))) (by kernel_rfl) (⟨x1, x2, y1, y2⟩) (fun hHeld => ?_)
      refine wpAnyH_take (i := 0) (oi := { dst := some 19, op := _, type := _, pos := _, after := _, guard := _ }) (v := ?_) rfl (by kernel_rfl) (by kernel_rfl) (by kernel_rfl) (fun _ _ _ h => h) (Or.inl ⟨by rfl, ?_⟩) (by assumption) ?_
      rotate_left 1
      · intro u hSw; obtain ⟨s1, s2, s3, s4⟩ := hSw; go_simp; try with_reducible rfl
      try simp only [Act.put, List.setIfInBounds_toArray, List.set_cons_zero, List.set_cons_succ]
      refine wpAnyH_take (i := 1) (oi := { dst := some 20, op := _, type := _, pos := _, after := _, guard := _ }) (v := ?_) rfl (by kernel_rfl) (by kernel_rfl) (by kernel_rfl) (fun _ _ _ h => h) (Or.inl ⟨by rfl, ?_⟩) (by assumption) ?_
      rotate_left 1
      · intro u hSw; obtain ⟨s1, s2, s3, s4⟩ := hSw; go_simp; try with_reducible rfl
      try simp only [Act.put, List.setIfInBounds_toArray, List.set_cons_zero, List.set_cons_succ]
      refine wpAnyH_take (i := 2) (oi := { dst := some 21, op := _, type := _, pos := _, after := _, guard := _ }) (v := ?_) rfl (by kernel_rfl) (by kernel_rfl) (by kernel_rfl) (fun _ _ _ h => h) (Or.inl ⟨by rfl, ?_⟩) (by assumption) ?_
      rotate_left 1
      · intro u hSw; obtain ⟨s1, s2, s3, s4⟩ := hSw; go_simp; try with_reducible rfl
      try simp only [Act.put, List.setIfInBounds_toArray, List.set_cons_zero, List.set_cons_succ]
      refine wpAnyH_take (i := 3) (oi := { dst := some 22, op := _, type := _, pos := _, after := _, guard := _ }) (v := ?_) rfl (by kernel_rfl) (by kernel_rfl) (by kernel_rfl) (fun _ _ _ h => h) (Or.inl ⟨by rfl, ?_⟩) (by assumption) ?_
      rotate_left 1
      · intro u hSw; obtain ⟨s1, s2, s3, s4⟩ := hSw; go_simp; try with_reducible rfl
      try simp only [Act.put, List.setIfInBounds_toArray, List.set_cons_zero, List.set_cons_succ]
      refine wpAnyH_take (i := 4) (oi := { dst := some 23, op := _, type := _, pos := _, after := _, guard := _ }) (v := ?_) rfl (by kernel_rfl) (by kernel_rfl) (by kernel_rfl) (fun _ _ _ h => h) (Or.inl ⟨by rfl, ?_⟩) (by assumption) ?_
      rotate_left 1
      · intro u hSw; obtain ⟨s1, s2, s3, s4⟩ := hSw; go_simp; try with_reducible rfl
      try simp only [Act.put, List.setIfInBounds_toArray, List.set_cons_zero, List.set_cons_succ]
      refine wpAnyH_take (i := 5) (oi := { dst := some 24, op := _, type := _, pos := _, after := _, guard := _ }) (v := ?_) rfl (by kernel_rfl) (by kernel_rfl) (by kernel_rfl) (fun _ _ _ h => h) (Or.inl ⟨by rfl, ?_⟩) (by assumption) ?_
      rotate_left 1
      · intro u hSw; obtain ⟨s1, s2, s3, s4⟩ := hSw; go_simp; try with_reducible rfl
      try simp only [Act.put, List.setIfInBounds_toArray, List.set_cons_zero, List.set_cons_succ]
      refine wpAnyH_take (i := 6) (oi := { dst := some 25, op := _, type := _, pos := _, after := _, guard := _ }) (v := ?_) rfl (by kernel_rfl) (by kernel_rfl) (by kernel_rfl) (fun _ _ _ h => h) (Or.inl ⟨by rfl, ?_⟩) (by assumption) ?_
      rotate_left 1
      · intro u hSw; obtain ⟨s1, s2, s3, s4⟩ := hSw; go_simp; try with_reducible rfl
      try simp only [Act.put, List.setIfInBounds_toArray, List.set_cons_zero, List.set_cons_succ]
      refine wpAnyH_take (i := 7) (oi := { dst := some 26, op := _, type := _, pos := _, after := _, guard := _ }) (v := ?_) rfl (by kernel_rfl) (by kernel_rfl) (by kernel_rfl) (fun _ _ _ h => h) (Or.inl ⟨by rfl, ?_⟩) (by assumption) ?_
      rotate_left 1
      · intro u hSw; obtain ⟨s1, s2, s3, s4⟩ := hSw; go_simp; try with_reducible rfl
      try simp only [Act.put, List.setIfInBounds_toArray, List.set_cons_zero, List.set_cons_succ]
      refine wpAnyH_ready (rs := [8]) (by kernel_rfl) (by simp) ?_
      refine AllReadyH.cons (o := { dst := some 27, op := _, type := _, pos := _, after := _, guard := _ }) rfl (fun K hK => ?_) AllReadyH.nil
      go_simp
      refine (sameCommit_any c.time HQ1.out HQ2.out).mono ?_
      rintro e w2 ⟨rfl, hb2⟩
      have HB2 := hid8 hb2
      clear hb2
      go_wp2_with fail
      refine hK.out _ _ (⟨(HB2.out.cell (p := ⟨b1, o1 + k * 2, none⟩) hlt1).trans x1, (HB2.out.cell (p := ⟨b1, o1 + k * 2 + 1, none⟩) hlt1).trans x2, (HB2.out.cell (p := ⟨b2, o2 + k * 2, none⟩) hlt2).trans y1, (HB2.out.cell (p := ⟨b2, o2 + k * 2 + 1, none⟩) hlt2).trans y2⟩) (fun hHeld => ?_)
      clear hK K
      try simp only [Act.put, List.setIfInBounds_toArray, List.set_cons_zero, List.set_cons_succ]
      refine wpAnyH_take (i := 9) (oi := { dst := some 6, op := _, type := _, pos := _, after := _, guard := _ }) (v := ?_) rfl (by kernel_rfl) (by kernel_rfl) (by kernel_rfl) (fun _ _ _ h => h) (Or.inl ⟨by rfl, ?_⟩) (by assumption) ?_
      rotate_left 1
      · intro u hSw; obtain ⟨s1, s2, s3, s4⟩ := hSw; go_simp; try with_reducible rfl
      try simp only [Act.put, List.setIfInBounds_toArray, List.set_cons_zero, List.set_cons_succ]
      refine wpAnyH_done (by kernel_rfl) ?_ _
      refine NoPanic.normal ?_
      have HB3 : Hid (Below w.heap.size w w2) := hid8 (HBW.out.trans ((below_drew wR).trans (HB2.out.mono (Nat.le_refl _)) |>.mono hsz))
      clear HB2 HBW
      go_wp2
      go_roundw
      case rel => exact ⟨k + 1, by omega, by go_num, HB3.out⟩
      case measure => simp [intOf]; omega
    · obtain rfl : k = len := by omega
      have HB3 := hid8 hbw
      clear hbw
      go_wp2
      go_ret
      exact ⟨rfl, HB3.out⟩

end
end Go.Proofs.YtgifcgniphncdaaGreatDoor

/-
  'plays': puts, flushes and rotations on a log; what was put.
-/
set_option linter.unusedVariables false
set_option linter.unusedSimpArgs false
namespace Go.Proofs.YtgifcgniphncdaaGreatDoor
open Go.RowKit Go.Maps

structure OpQ where
  kind : Int
  time : Int
  ws : List Wr
  au : Option Addr
  lu : Nat
  cu : Nat
  n : Int
  at_ : Int
  k1 : Int
  k2 : Int
  k3 : Int
  ro : Option Addr
  rl : Nat
  rc : Nat
def OpQ.cells (o : OpQ) : List Value := [.int .i64 o.kind, .int .i64 o.time, .slice o.au o.lu o.cu, .int .i64 o.n, .int .i64 o.at_, .int .i64 o.k1, .int .i64 o.k2, .int .i64 o.k3, .slice o.ro o.rl o.rc]
def OpQ.c (o : OpQ) : Cm := ⟨o.time, o.ws⟩
/-- A script that came in: all of it lies below B. -/
def Sq (w : World) (B : Nat) (ao : Option Addr) (len cap : Nat) (os : List OpQ) : Prop :=
  Seq 9 OpQ.cells w ao len cap os ∧ (∀ b off, ao = some ⟨b, off, none⟩ → 0 < len → b < B) ∧ ∀ o ∈ os, Seq 3 Wr.cells w o.au o.lu o.cu o.ws ∧ (∀ b off, o.au = some ⟨b, off, none⟩ → 0 < o.lu → b < B) ∧ -9223372036854775808 ≤ o.kind ∧ o.kind ≤ 9223372036854775807
theorem Sq.below {w w' : World} {B : Nat} {ao : Option Addr} {len cap : Nat} {os : List OpQ} (h : Sq w B ao len cap os) (hb : Below B w w') : Sq w' B ao len cap os := by
  obtain ⟨h1, h2, h3⟩ := h
  have keep : ∀ {α : Type} {k : Nat} {f : α → List Value} {a : Option Addr} {l c : Nat} {xs : List α}, Seq k f w a l c xs → (∀ b off, a = some ⟨b, off, none⟩ → 0 < l → b < B) → Seq k f w' a l c xs := fun hs hB => by
    obtain ⟨g1, g2, g3, g4⟩ := hs
    refine ⟨g1, g2, g3, fun hl => ?_⟩
    obtain ⟨b, off, e, hlt, hc⟩ := g4 hl
    exact ⟨b, off, e, Nat.lt_of_lt_of_le hlt hb.size, fun i x hi j u hj => (hb.cell (p := ⟨b, _, none⟩) (hB b off e hl)).trans (hc i x hi j u hj)⟩
  exact ⟨keep h1 h2, h2, fun o ho => ⟨keep (h3 o ho).1 (h3 o ho).2.1, (h3 o ho).2⟩⟩
/-- A row of commits that was put together here; Z: where their writes lie. -/
def PuR (w : World) (Z : Nat → Prop) (v : Value) (cs : List Cm) : Prop :=
  ∃ ps : List (Cm × Value), ps.map (·.1) = cs ∧ w.ownsRow 0 37 2 v ps.length (ps.flatMap cc) ∧ ∀ p ∈ ps, ∃ au lu cu, p.2 = .slice au lu cu ∧ Seq 3 Wr.cells w au lu cu p.1.ws ∧ (0 < lu → ∀ g o, au = some ⟨g, o, none⟩ → Z g)
section
variable {w w' : World} {Z : Nat → Prop} {v : Value} {cs : List Cm}
theorem seq_same {α : Type} {k : Nat} {f : α → List Value} {a : Option Addr} {l c : Nat} {xs : List α} (hs : Seq k f w a l c xs) (hz : w.heap.size ≤ w'.heap.size) (hB : 0 < l → ∀ b off, a = some ⟨b, off, none⟩ → w'.heap[b]? = w.heap[b]?) : Seq k f w' a l c xs := by
  obtain ⟨g1, g2, g3, g4⟩ := hs
  refine ⟨g1, g2, g3, fun hl => ?_⟩
  obtain ⟨b, off, e, hlt, hc⟩ := g4 hl
  exact ⟨b, off, e, by omega, fun i x hi j u hj => (World.cell?_of_block (hB hl b off e)).trans (hc i x hi j u hj)⟩
theorem PuR.keep (h : PuR w Z v cs) (hz : w.heap.size ≤ w'.heap.size) (hv : ∀ g, v.ownBlock = some g → w'.heap[g]? = w.heap[g]?) (hZ : ∀ j, Z j → w'.heap[j]? = w.heap[j]?) : PuR w' Z v cs := by
  obtain ⟨ps, h0, h1, h3⟩ := h
  refine ⟨ps, h0, row_on h1 hv, fun p hp => ?_⟩
  obtain ⟨au, lu, cu, e, q1, q2⟩ := h3 p hp
  exact ⟨au, lu, cu, e, seq_same q1 hz (fun hl b off e2 => hZ b (q2 hl b off e2)), q2⟩
theorem PuR.lt (h : PuR w Z v cs) : ∀ g, v.ownBlock = some g → g < w.heap.size := by
  obtain ⟨ps, h0, h1, h3⟩ := h
  exact fun g e => (World.ownsRow.lt h1 g e).2
theorem PuR.nil (w : World) (Z : Nat → Prop) : PuR w Z (.slice none 0 0) [] := ⟨[], rfl, World.ownsRow_nil _ _ _ _, fun p hp => by cases hp⟩
/-- It is read as a slice of commits. -/
theorem PuR.cs8 (h : PuR w Z v cs) : ∃ ao cap, v = .slice ao cs.length cap ∧ CS w (fun j => v.ownBlock = some j ∨ Z j) ao cs.length cap cs := by
  obtain ⟨ps, h0, h1, h3⟩ := h
  have el : cs.length = ps.length := by rw [← h0]; simp
  obtain ⟨ao, ln, cp, rfl⟩ := erow_form h1
  have hsq := seq_of_row h1 (fun _ => rfl) (by decide)
  have eln : ln = cs.length := by rw [el]; exact hsq.1.symm
  subst eln
  refine ⟨ao, cp, rfl, rfl, hsq.2.1, hsq.2.2.1, fun hl => ?_⟩
  obtain ⟨b, off, rfl, hlt, hc⟩ := hsq.2.2.2 hl
  refine ⟨b, off, rfl, hlt, .inl rfl, fun i c hi => ?_⟩
  have hil : i < ps.length := by rw [← el]; exact (List.getElem?_eq_some_iff.1 hi).1
  obtain ⟨p, hp⟩ : ∃ p, ps[i]? = some p := ⟨ps[i], List.getElem?_eq_getElem hil⟩
  have ec : p.1 = c := by
    rw [← h0, List.getElem?_map, hp] at hi
    simpa using hi
  subst ec
  obtain ⟨au, lu, cu, e, q1, q2⟩ := h3 p (List.mem_of_getElem? hp)
  have c0 := hc i p hp 0 _ rfl
  have c1 := hc i p hp 1 _ rfl
  rw [e] at c1
  exact ⟨au, lu, cu, by simpa using c0, c1, q1, fun hl g o e2 => .inr (q2 hl g o e2)⟩
/-- One more. -/
theorem PuR.push {v' : Value} {c : Cm} {au : Option Addr} {lu cu : Nat} {ps : List (Cm × Value)} (h0 : ps.map (·.1) = cs) (h3 : ∀ p ∈ ps, ∃ au lu cu, p.2 = .slice au lu cu ∧ Seq 3 Wr.cells w au lu cu p.1.ws ∧ (0 < lu → ∀ g o, au = some ⟨g, o, none⟩ → Z g))
    (hs : Seq 3 Wr.cells w au lu cu c.ws) (hz : 0 < lu → ∀ g o, au = some ⟨g, o, none⟩ → Z g) (hsz : w.heap.size ≤ w'.heap.size) (hZ : ∀ j, Z j → w'.heap[j]? = w.heap[j]?) (hr : w'.ownsRow 0 37 2 v' (ps.length + 1) (ps.flatMap cc ++ [.int .i64 c.time, .slice au lu cu])) : PuR w' Z v' (cs ++ [c]) := by
  refine ⟨ps ++ [(c, .slice au lu cu)], by simp [h0], ?_, fun p hp => ?_⟩
  · rw [List.length_append, List.length_singleton, List.flatMap_append]
    simpa using hr
  · rcases List.mem_append.1 hp with hp | hp
    · obtain ⟨a, l, e, q0, q1, q2⟩ := h3 p hp
      exact ⟨a, l, e, q0, seq_same q1 hsz (fun hl b off e2 => hZ b (q2 hl b off e2)), q2⟩
    · simp only [List.mem_singleton] at hp
      subst hp
      exact ⟨au, lu, cu, rfl, seq_same hs hsz (fun hl b off e2 => hZ b (hz hl b off e2)), hz⟩
end

/-! ### The same without memory -/
structure Py where
  L : Lg
  S : Dsk
  put : List Cm
  many : Nat
  turns : Nat
  N : Nat
def Py.step (p : Py) (o : OpQ) : Py :=
  if pkn o.kind 8 = 0 then
    if p.many < 18 then { p with L := (p.L.put o.c).2, put := if (p.L.put o.c).1.2 = 0 then p.put ++ [o.c] else p.put, many := p.many + 1, N := p.N + 1 } else p
  else if pkn o.kind 8 = 2 then
    if p.turns < 20 then { p with L := (p.L.turn p.S).2.1, S := (p.L.turn p.S).2.2, turns := p.turns + 1 } else p
  else if pkn o.kind 8 = 3 then p
  else { p with L := (p.L.flush p.S).2.1, S := (p.L.flush p.S).2.2 }
def Py.play (p : Py) (os : List OpQ) : Py := os.foldl Py.step p
theorem play_snoc8 (p : Py) (os : List OpQ) (k : Nat) (o : OpQ) (h : os[k]? = some o) : p.play (os.take (k + 1)) = (p.play (os.take k)).step o := by
  have hk := (List.getElem?_eq_some_iff.1 h).1
  have e : os[k] = o := (List.getElem?_eq_some_iff.1 h).2
  rw [← List.take_append_getElem hk, e]
  simp [Py.play]
theorem play_bounds (os : List OpQ) : ∀ (p : Py), (p.play os).N ≤ p.N + os.length ∧ (p.many ≤ 18 → (p.play os).many ≤ 18) ∧ (p.turns ≤ 20 → (p.play os).turns ≤ 20) ∧ (p.play os).put.length ≤ p.put.length + os.length := by
  induction os with
  | nil => intro p; simp [Py.play]
  | cons o r ih =>
    intro p
    have h := ih (p.step o)
    have e : p.play (o :: r) = (p.step o).play r := rfl
    rw [e]
    have hs : (p.step o).N ≤ p.N + 1 ∧ (p.many ≤ 18 → (p.step o).many ≤ 18) ∧ (p.turns ≤ 20 → (p.step o).turns ≤ 20) ∧ (p.step o).put.length ≤ p.put.length + 1 := by
      unfold Py.step
      split
      · split
        · refine ⟨Nat.le_refl _, fun _ => by show p.many + 1 ≤ 18; omega, fun h => h, ?_⟩
          show (if _ then _ else _ : List Cm).length ≤ _
          split
          · simp
          · omega
        · exact ⟨by omega, fun h => h, fun h => h, by omega⟩
      · split
        · split
          · exact ⟨by show p.N ≤ _; omega, fun h => h, fun _ => by show p.turns + 1 ≤ 20; omega, by show p.put.length ≤ _; omega⟩
          · exact ⟨by omega, fun h => h, fun h => h, by omega⟩
        · split
          · exact ⟨by omega, fun h => h, fun h => h, by omega⟩
          · exact ⟨by show p.N ≤ _; omega, fun h => h, fun h => h, by show p.put.length ≤ _; omega⟩
    simp only [List.length_cons]
    exact ⟨by omega, fun hm => h.2.1 (hs.2.1 hm), fun hm => h.2.2.1 (hs.2.2.1 hm), by omega⟩
theorem pkn_bd (c : Int) (n : Int) (hn : 0 < n) : 0 ≤ pkn c n ∧ pkn c n < n := by
  unfold pkn
  split
  · exact ⟨Int.emod_nonneg _ (by omega), Int.emod_lt_of_pos _ hn⟩
  · exact ⟨Int.emod_nonneg _ (by omega), Int.emod_lt_of_pos _ hn⟩

/-- The log, and what was put, in memory. -/
structure Pz (w : World) (B : Nat) (Z : Nat → Prop) (l d : Nat) (v : Value) (p : Py) : Prop where
  it : ∃ A, PM w B A l d p.S p.L p.N ∧ ∀ j, A j → v.ownBlock ≠ some j ∧ ¬ Z j
  pu : PuR w Z v p.put
  vb : ∀ g, v.ownBlock = some g → B ≤ g
  zl : ∀ j, Z j → j < w.heap.size
  vz : ∀ j, Z j → v.ownBlock ≠ some j
section
variable {w w' : World} {B : Nat} {Z : Nat → Prop} {l d : Nat} {v : Value} {p : Py}
/-- Behind a call of the log's. -/
theorem Pz.next {A : Nat → Prop} (h : Pz w B Z l d v p) (hA : ∀ j, A j → v.ownBlock ≠ some j ∧ ¬ Z j) {S' : Dsk} {L' : Lg} {N' : Nat} (hp : PM w' B (Land.more A w w') l d S' L' N') (hf : Fr A w w') {many turns : Nat} : Pz w' B Z l d v ⟨L', S', p.put, many, turns, N'⟩ := by
  have hlt := h.pu.lt
  have hz := hf.size
  refine ⟨⟨_, hp, fun j hj => ?_⟩, h.pu.keep hf.size (fun g e => hf.block g (hlt g e) (fun k => (hA g k).1 e)) (fun j hj => hf.block j (h.zl j hj) (fun k => (hA j k).2 hj)), h.vb, fun j hj => Nat.lt_of_lt_of_le (h.zl j hj) hz, h.vz⟩
  rcases hj with hj | hj
  · exact hA j hj
  · exact ⟨fun e => by have := hlt j e; have := hj.1; omega, fun e => by have := h.zl j e; have := hj.1; omega⟩
end
end Go.Proofs.YtgifcgniphncdaaGreatDoor

/-
  A log that is played on, and the power that may go: whatever a crash leaves is read again. No program in sight.
-/
set_option linter.unusedVariables false
set_option linter.unusedSimpArgs false
namespace Go.Proofs.YtgifcgniphncdaaGreatDoor
open Go.RowKit Go.Maps

/-! ### Operations that go well, or not -/
/-! ### What a crash leaves -/
/-- The segment that is written. -/
def live (n : Int) (q : Nat) (B : List (List Int)) (j : Nat) : List Int × Nat := (fras q (fstB n :: B), eo ((fstB n :: B).take j))
theorem live_all (n : Int) (q : Nat) (B : List (List Int)) : live n q B (B.length + 1) = (fras q (fstB n :: B), (fras q (fstB n :: B)).length) := by
  unfold live
  rw [List.take_of_length_le (by simp), fras_len]
section
variable {P Q : PD} {C0 : List (List Int × Nat)} {R : Rdr} {ke di te : Int}
end
end Go.Proofs.YtgifcgniphncdaaGreatDoor

/-
  A log that is played on: what is kept. No program in sight.
-/
set_option linter.unusedVariables false
set_option linter.unusedSimpArgs false
namespace Go.Proofs.YtgifcgniphncdaaGreatDoor
open Go.RowKit Go.Maps

theorem coms_cmb : ∀ {wc : List Cm}, (∀ c ∈ wc, rightC c = true) → coms (wc.map cmb) = some wc
  | [], _ => rfl
  | c :: r, h => by
    have hc := rd_C (h c (List.mem_cons_self ..))
    have ih := coms_cmb (wc := r) fun x hx => h x (List.mem_cons_of_mem _ hx)
    simp only [List.map_cons, coms, ih, hc.1, hc.2]
    split
    · rename_i e
      have e2 := congrArg List.length e
      unfold cmb at e2
      simp at e2
    · simp
theorem okb_cmb {wc : List Cm} (h : ∀ c ∈ wc, rightC c = true) : Okb (wc.map cmb) := fun b hb => by
  obtain ⟨c, hc, rfl⟩ := List.mem_map.1 hb
  exact ⟨cmb_len (h c hc), cmb_byt (h c hc)⟩
theorem coms_add {a b : List (List Int)} {k l : List Cm} (h : coms a = some k) (h2 : coms b = some l) : coms (a ++ b) = some (k ++ l) := by
  rw [coms_append, h, h2]
  rfl
theorem live_app {n : Int} {q : Nat} {B B' : List (List Int)} {j : Nat} (hj : j ≤ B.length + 1) (hq : q + B.length + 1 < 18446744073709551616) : ((live n q B j).1 ++ fras (q + (B.length + 1)) B', (live n q B j).2) = live n q (B ++ B') j := by
  unfold live
  have e := fras_append q (fstB n :: B) B' (by omega)
  rw [List.length_cons, Nat.mod_eq_of_lt (by omega)] at e
  rw [← List.cons_append, e, List.take_append_of_le_length (by simpa using hj)]

section
variable {b0 T M : Nat} {L : Lg} {S : Dsk} {pu : List Cm} {C0 : List (List Int × Nat)} {R : Rdr} {B : List (List Int)} {ks wc : List Cm} {j : Nat}
theorem goOn_st (L : Lg) (S : Dsk) (h : L.step ≤ 3) : (L.goOn S).step ≤ 3 := by
  unfold Lg.goOn Lg.mid
  split
  · split
    · exact h
    · split <;> exact h
  · split
    · exact Nat.zero_le _
    · show L.step + 1 ≤ 3
      omega
theorem fin_zero : ∀ (k : Nat) (L : Lg) (S : Dsk), L.step ≤ 3 → L.left ≤ k → (L.fin S k).1.over ≠ 0 ∨ (L.fin S k).1.step = 0
  | 0, L, S, h3, h => by
    refine .inr ?_
    show L.step = 0
    unfold Lg.left at h
    split at h <;> omega
  | k + 1, L, S, h3, h => by
    by_cases ho : L.over ≠ 0 ∨ L.step = 0
    · rw [fin_stop ho]
      exact ho
    · have h1 : L.over = 0 := by rcases Decidable.em (L.over = 0) with e | e; exact e; exact absurd (.inl e) ho
      have h2 : L.step ≠ 0 := fun e => ho (.inr e)
      rw [fin_go h1 h2]
      by_cases hop : (L.op S).1 = 0
      · exact fin_zero k _ _ (goOn_st L S h3) (by have := goOn_left h2 h3 hop; omega)
      · rw [fin_stop (.inl (by rw [goOn_over]; exact hop))]
        exact .inl (by rw [goOn_over]; exact hop)
end
end Go.Proofs.YtgifcgniphncdaaGreatDoor

/-
  A log on a disk whose power stays, and where there is room: all goes well. No program in sight.
-/
set_option linter.unusedVariables false
set_option linter.unusedSimpArgs false
namespace Go.Proofs.YtgifcgniphncdaaGreatDoor
open Go.RowKit Go.Maps

theorem cmb_len2 {c : Cm} (h : rightC c = true) : (cmb c).length ≤ 6485 := by
  simp only [rightC, Bool.and_eq_true, decide_eq_true_eq] at h
  obtain ⟨⟨_, h64⟩, hup⟩ := h
  have h1 := flat_len wb c.ws 101 (fun x hx => wb_len x (upW_mem c.ws _ hup x hx))
  have h2 := enc_len c.time
  have h3 := enc_len c.ws.length
  simp only [cmb, List.length_cons, List.length_append]
  omega
theorem eo_cmb : ∀ {wc : List Cm}, (∀ c ∈ wc, rightC c = true) → eo (wc.map cmb) ≤ 6720 * wc.length
  | [], _ => by simp [eo]
  | c :: r, h => by
    have h1 := cmb_len2 (h c (List.mem_cons_self ..))
    have ih := eo_cmb (wc := r) fun x hx => h x (List.mem_cons_of_mem _ hx)
    have h2 : nb (cmb c).length ≤ 210 := by unfold nb; omega
    simp only [List.map_cons, eo, List.length_cons]
    omega
def pend (L : Lg) : Nat := if L.step = 1 ∨ L.step = 2 then 32 else 0
section
variable {b0 T M Z : Nat} {K : Int} {L : Lg} {S : Dsk} {pu : List Cm}
end
end Go.Proofs.YtgifcgniphncdaaGreatDoor

/-
  'plays', walked.
-/
set_option linter.unusedVariables false
set_option linter.unusedSimpArgs false
namespace Go.Proofs.YtgifcgniphncdaaGreatDoor
open Go.RowKit Go.Maps

set_option maxRecDepth 100000 in
set_option maxHeartbeats 8000000 in
theorem plays_any {w : World} {B : Nat} {Z : Nat → Prop} {l d : Nat} {v : Value} {p0 : Py} (h : Pz w B Z l d v p0) (hB : B ≤ w.heap.size) (hZB : ∀ j, j < B → Z j) {ao : Option Addr} {len cap : Nat} {os : List OpQ} (hsq : Sq w B ao len cap os) (hN : p0.N + 100 ≤ 1000000) (hm0 : p0.many = 0) (ht0 : p0.turns = 0) (hpl : p0.put.length ≤ 1000000) :
    Calls Tryz.prog 20 #[.pointer (some ⟨l, 0, none⟩), .slice ao len cap, v] w fun e w' => ∃ v', e = .returned v' ∧ Pz w' B Z l d v' (p0.play (os.take 100)) ∧ Below B w w' := by
  obtain ⟨i0, hi, hz0, hz1, hz2⟩ := info_parts infoC
  have hlen : (len : Int) ≤ 9223372036854775807 := by have := hsq.1.2.1; have := hsq.1.2.2.1; unfold maxLen at this; omega
  have HSQ := hid8 hsq
  have HL : Hid (os.length = len) := hid8 hsq.1.1
  have HH := hid8 h
  have HZB := hid8 hZB
  clear h hsq hZB
  go_enter Tryz.func20, Tryz.ntmps20
  go_wp2
  go_loopw [2, 7, 8, 9, 10, 11, 12] (fun u m t i _ _ _ wr => ∃ (k : Nat) (v : Value), k ≤ len ∧ k ≤ 100 ∧ i = .int .i64 (k : Int) ∧ u = v ∧ m = .int .i64 (((p0.play (os.take k)).many : Nat) : Int) ∧ t = .int .i64 (((p0.play (os.take k)).turns : Nat) : Int) ∧ Pz wr B Z l d v (p0.play (os.take k)) ∧ Below B w wr) (fun _ _ _ i _ _ _ _ => 100 - (intOf i).toNat)
  case atStart => exact ⟨0, v, by omega, by omega, rfl, rfl, by show Value.int .i64 0 = .int .i64 ((p0.many : Nat) : Int); rw [hm0]; rfl, by show Value.int .i64 0 = .int .i64 ((p0.turns : Nat) : Int); rw [ht0]; rfl, HH.out, Below.refl _ _⟩
  case round =>
    clear HH
    obtain ⟨k, vk, hk, hk1, rfl, rfl, rfl, rfl, hp, hb⟩ := hrel
    obtain ⟨wR, hwR⟩ : ∃ x, x = wr := ⟨_, rfl⟩
    subst hwR
    have hsz := hb.size
    have hbd := play_bounds (os.take k) p0
    have htl : (os.take k).length ≤ k := by rw [List.length_take]; omega
    by_cases hkl : k < len ∧ k < 100
    · obtain ⟨hkl, hk2⟩ := hkl
      have hkl2 : (k : Int) < (len : Int) := by omega
      have hk3 : (k : Int) < 100 := by omega
      obtain ⟨o, ho⟩ : ∃ o, os[k]? = some o := ⟨os[k]'(by have := HL.out; omega), List.getElem?_eq_getElem _⟩
      have HST : Hid (p0.play (os.take (k + 1)) = (p0.play (os.take k)).step o) := hid8 (play_snoc8 p0 os k o ho)
      obtain ⟨hq1, hq2, hq3⟩ := HSQ.out.below hb
      obtain ⟨b, off, rfl, hbl, hcell⟩ := hq1.2.2.2 (by omega)
      have hbB := hq2 b off rfl (by omega)
      have c0 : wR.cell? ⟨b, off + k * 9, none⟩ = some (.int .i64 o.kind) := hcell k o ho 0 _ rfl
      have c1 : wR.cell? ⟨b, off + k * 9 + 1, none⟩ = some (.int .i64 o.time) := hcell k o ho 1 _ rfl
      have c2 : wR.cell? ⟨b, off + k * 9 + 2, none⟩ = some (.slice o.au o.lu o.cu) := hcell k o ho 2 _ rfl
      have c2' : wR.cell? ⟨b, off + k * 9 + 1 + 1, none⟩ = some (.slice o.au o.lu o.cu) := c2
      obtain ⟨hws, hwb, hk0, hk9⟩ := hq3 o (List.mem_of_getElem? ho)
      have HPK := hid8 (pick8_any o.kind 8 hk0 hk9 (by decide) (by decide) wR)
      have hpk := pkn_bd o.kind 8 (by decide)
      have HP := hid8 hp
      have HB := hid8 hb
      have HWS := hid8 hws
      have HWB := hid8 hwb
      have hm18 := hbd.2.1 (by omega)
      have ht20 := hbd.2.2.1 (by omega)
      generalize hpy : p0.play (os.take k) = py at *
      have hsp : Hid (py.step o = p0.play (os.take (k + 1))) := hid8 HST.out.symm
      unfold Py.step at hsp
      clear hcell hq1 hq2 hq3 hp hb hws hwb ho HST hpy
      generalize hq : pkn o.kind 8 = q at *
      go_wp2_with fail
      refine HPK.out.mono ?_
      rintro e w1 ⟨rfl, rfl⟩
      clear HPK
      by_cases q0 : q = 0
      · subst q0
        by_cases hm : py.many < 18
        · have hm2 : ((py.many : Int)) < 18 := by omega
          have eP : Hid (p0.play (os.take (k + 1)) = { py with L := (py.L.put o.c).2, put := if (py.L.put o.c).1.2 = 0 then py.put ++ [o.c] else py.put, many := py.many + 1, N := py.N + 1 }) := hid8 (by have := hsp.out; rw [if_pos rfl, if_pos hm] at this; exact this.symm)
          obtain ⟨A, hpm, hA⟩ := HP.out.it
          have HPu := hid8 (walPut_any hpm (by omega) HWS.out o.time)
          rw [show (⟨o.time, o.ws⟩ : Cm) = o.c from rfl] at HPu
          have HBL := hid8 (fun (w' : World) (F : Fr A w1 w') => hpm.bel F)
          have HAA := hid8 hA
          clear hpm hA
          go_wp2_with fail
          refine HPu.out.mono ?_
          rintro e w2 ⟨rfl, hp2, hf2⟩
          have hzw2 := hf2.size
          have hb2 := HBL.out _ hf2
          have HB2 := hid8 (HB.out.trans hb2)
          have HP2 := hid8 (HP.out.next HAA.out hp2 hf2 (many := py.many + 1) (turns := py.turns))
          have d1 : w2.cell? ⟨b, off + k * 9 + 1, none⟩ = some (.int .i64 o.time) := (hb2.cell (p := ⟨b, off + k * 9 + 1, none⟩) hbB).trans c1
          have d2 : w2.cell? ⟨b, off + k * 9 + 1 + 1, none⟩ = some (.slice o.au o.lu o.cu) := (hb2.cell (p := ⟨b, off + k * 9 + 1 + 1, none⟩) hbB).trans c2'
          have d2' : w2.cell? ⟨b, off + k * 9 + 2, none⟩ = some (.slice o.au o.lu o.cu) := d2
          have HWS2 := hid8 (show Seq 3 Wr.cells w2 o.au o.lu o.cu o.ws from seq_same HWS.out hzw2 (fun hl b' off' e => hb2.block b' (HWB.out b' off' e hl)))
          have hbl2 : b < w2.heap.size := by omega
          clear HPu hp2 hf2 HP HB HBL hb2 c0 c1 c2 c2'
          generalize hpa : py.L.put o.c = PA at *
          obtain ⟨⟨tk, er⟩, L2⟩ := PA
          by_cases her : er = 0
          · subst her
            obtain ⟨ps, e0, r1, r3⟩ := HP2.out.pu
            have hpl2 : ps.length ≤ p0.put.length + 100 := by
              have e1 : ps.length = py.put.length := by rw [← List.length_map (f := fun p : Cm × Value => p.1), e0]
              omega
            have bA : Below w2.heap.size w2 (w2.alloc (.cells #[.int .i64 o.time, .slice o.au o.lu o.cu] 37)) := (Below.refl _ _).alloc (Nat.le_refl _) _
            have HR1 := hid8 (row_on r1 (fun j e => bA.block j (World.ownsRow.lt r1 j e).2))
            have HNW := hid8 (cell_two_new w2 (.int .i64 o.time) (.slice o.au o.lu o.cu) 37)
            have R1 := hid8 r1
            have R3 := hid8 r3
            have zA : (w2.alloc (.cells #[.int .i64 o.time, .slice o.au o.lu o.cu] 37)).heap.size = w2.heap.size + 1 := by simp
            clear r1 r3
            go_wp2_with (first | (at_builtin; refine Hid.out ?_) | fail)
            refine hid8 ?_
            refine wpList_append_own_at _ rfl _ _ 45 rfl 0 37 i0 (.agg #[.int .i64 0, .slice none 0 0]) 2 32 Tryz.underlying45 hi hz0 hz1 hz2 rfl (by decide) u2 ps.length (ps.flatMap cc) rfl HR1.out ⟨w2.heap.size, 0, none⟩ 1 1 [.int .i64 o.time, .slice o.au o.lu o.cu] rfl rfl HNW.out (by intro u hu; simp at hu; rcases hu with rfl | rfl <;> rfl) (by unfold maxLen; omega) (by omega) (Nat.zero_le _) ?_
            intro v' w3 hown hgrow _ hat
            have hz3 : w2.heap.size + 1 ≤ w3.heap.size := by have := hgrow.size; omega
            obtain ⟨A2, hpm2, hA2⟩ := HP2.out.it
            have F3 : Fr (fun j => u2.ownBlock = some j) w2 w3 := ((Fr.refl _ w2).trans (Fr.below bA) (fun j e => .inl e)).trans (Fr.grown (F := fun j => u2.ownBlock = some j) hgrow (fun j e => e)) (fun j e => .inl e)
            have hvz : ∀ j, Z j → u2.ownBlock ≠ some j → w3.heap[j]? = w2.heap[j]? := fun j hj hn => F3.block j (HP2.out.zl j hj) hn
            have HZV : Hid (∀ j, Z j → u2.ownBlock ≠ some j) := hid8 HP2.out.vz
            have hP3 : Pz w3 B Z l d v' { py with L := L2, put := py.put ++ [o.c], many := py.many + 1, N := py.N + 1 } := by
              refine ⟨⟨A2, hpm2.keep F3 (fun j hj e => (hA2 j hj).1 e) (fun j e => HP2.out.vb j e), fun j hj => ⟨fun e => ?_, (hA2 j hj).2⟩⟩, PuR.push (w := w2) e0 R3.out HWS2.out (fun hl g o' e => HZB.out g (HWB.out g o' e hl)) F3.size (fun j hj => hvz j hj (HZV.out j hj)) hown, fun g e => ?_, (fun j hj => by have := HP2.out.zl j hj; omega), fun j hj e => ?_⟩
              · rcases hat with q | q
                · exact (hA2 j hj).1 (by rw [← q, e])
                · have := (hpm2.lo j hj).2
                  rw [q] at e
                  simp only [Option.some.injEq] at e
                  omega
              · rcases hat with q | q
                · exact HP2.out.vb g (by rw [← q, e])
                · rw [q] at e
                  simp only [Option.some.injEq] at e
                  omega
              · rcases hat with q | q
                · exact HZV.out j hj (by rw [← q, e])
                · have := HP2.out.zl j hj
                  rw [q] at e
                  simp only [Option.some.injEq] at e
                  omega
            have HP3 := hid8 hP3
            have HB3 := hid8 (HB2.out.trans (F3.to (n := B) (fun k hk e => by have := HP2.out.vb k e; omega) (by omega)))
            have HC3 : Hid (((py.many : Int) + 1) = ((py.many + 1 : Nat) : Int)) := hid8 (by omega)
            clear hown hgrow hat hP3 F3 hvz hpm2 hA2 HR1 HNW R1 R3 bA
            go_wp2
            go_roundw
            case rel => exact ⟨k + 1, _, by omega, by omega, by go_num, rfl, by rw [eP.out]; go_num, by rw [eP.out], by rw [eP.out]; first | (rw [if_pos rfl]; exact HP3.out) | (simp only [if_true]; exact HP3.out), HB3.out⟩
            case measure => simp [intOf]; omega
          · have herb : (er == 0) = false := by simpa using her
            go_wp2
            go_roundw
            case rel => exact ⟨k + 1, _, by omega, by omega, by go_num, rfl, by rw [eP.out]; go_num, by rw [eP.out], by rw [eP.out, if_neg her]; exact HP2.out, HB2.out⟩
            case measure => simp [intOf]; omega
        · have hm2 : ¬ (py.many : Int) < 18 := by omega
          have eP : Hid (p0.play (os.take (k + 1)) = py) := hid8 (by have := hsp.out; rw [if_pos rfl, if_neg hm] at this; exact this.symm)
          go_wp2
          go_roundw
          case rel => exact ⟨k + 1, _, by omega, by omega, by go_num, rfl, by rw [eP.out], by rw [eP.out], by rw [eP.out]; exact HP.out, HB.out⟩
          case measure => simp [intOf]; omega
      · have q0a : (q == 0) = false := by simpa using q0
        have q0b : (q != 0) = true := by simpa using q0
        by_cases q2 : q = 2
        · subst q2
          by_cases ht : py.turns < 20
          · have ht2 : ((py.turns : Int)) < 20 := by omega
            have eP : Hid (p0.play (os.take (k + 1)) = { py with L := (py.L.turn py.S).2.1, S := (py.L.turn py.S).2.2, turns := py.turns + 1 }) := hid8 (by have := hsp.out; rw [if_neg (by decide), if_pos rfl, if_pos ht] at this; exact this.symm)
            obtain ⟨A, hpm, hA⟩ := HP.out.it
            have HFl := hid8 (walRotate_any hpm)
            have HBL := hid8 (fun (w' : World) (F : Fr A w1 w') => hpm.bel F)
            have HAA := hid8 hA
            clear hpm hA
            go_wp2_with fail
            refine HFl.out.mono ?_
            rintro e w2 ⟨rfl, hp2, hf2⟩
            have HB2 := hid8 (HB.out.trans (HBL.out _ hf2))
            have HP2 := hid8 (HP.out.next HAA.out hp2 hf2 (many := py.many) (turns := py.turns + 1))
            clear HFl hp2 hf2 HP HB HBL
            go_wp2
            go_roundw
            case rel => exact ⟨k + 1, _, by omega, by omega, by go_num, rfl, by rw [eP.out], by rw [eP.out]; go_num, by rw [eP.out]; exact HP2.out, HB2.out⟩
            case measure => simp [intOf]; omega
          · have ht2 : ¬ (py.turns : Int) < 20 := by omega
            have eP : Hid (p0.play (os.take (k + 1)) = py) := hid8 (by have := hsp.out; rw [if_neg (by decide), if_pos rfl, if_neg ht] at this; exact this.symm)
            go_wp2
            go_roundw
            case rel => exact ⟨k + 1, _, by omega, by omega, by go_num, rfl, by rw [eP.out], by rw [eP.out], by rw [eP.out]; exact HP.out, HB.out⟩
            case measure => simp [intOf]; omega
        · have q2a : (q == 2) = false := by simpa using q2
          have q2b : (q != 2) = true := by simpa using q2
          by_cases q3 : q = 3
          · subst q3
            have eP : Hid (p0.play (os.take (k + 1)) = py) := hid8 (by have := hsp.out; rw [if_neg (by decide), if_neg (by decide), if_pos rfl] at this; exact this.symm)
            go_wp2
            go_roundw
            case rel => exact ⟨k + 1, _, by omega, by omega, by go_num, rfl, by rw [eP.out], by rw [eP.out], by rw [eP.out]; exact HP.out, HB.out⟩
            case measure => simp [intOf]; omega
          · have q3a : (q == 3) = false := by simpa using q3
            have q3b : (q != 3) = true := by simpa using q3
            have eP : Hid (p0.play (os.take (k + 1)) = { py with L := (py.L.flush py.S).2.1, S := (py.L.flush py.S).2.2 }) := hid8 (by have := hsp.out; rw [if_neg q0, if_neg q2, if_neg q3] at this; exact this.symm)
            obtain ⟨A, hpm, hA⟩ := HP.out.it
            have HFl := hid8 (walFlush_any hpm)
            have HBL := hid8 (fun (w' : World) (F : Fr A w1 w') => hpm.bel F)
            have HAA := hid8 hA
            clear hpm hA
            go_wp2_with fail
            refine HFl.out.mono ?_
            rintro e w2 ⟨rfl, hp2, hf2⟩
            have HB2 := hid8 (HB.out.trans (HBL.out _ hf2))
            have HP2 := hid8 (HP.out.next HAA.out hp2 hf2 (many := py.many) (turns := py.turns))
            clear HFl hp2 hf2 HP HB HBL
            go_wp2
            go_roundw
            case rel => exact ⟨k + 1, _, by omega, by omega, by go_num, rfl, by rw [eP.out], by rw [eP.out], by rw [eP.out]; exact HP2.out, HB2.out⟩
            case measure => simp [intOf]; omega
    · have hend : Hid (os.take 100 = os.take k) := hid8 (by
        by_cases h1 : k < len
        · have : k = 100 := by omega
          rw [this]
        · have e1 : k = len := by omega
          rw [List.take_of_length_le (by have := HL.out; omega), List.take_of_length_le (by have := HL.out; omega)])
      have HP := hid8 hp
      have HB := hid8 hb
      clear hp hb
      by_cases h1 : k < len
      · have h2 : ¬ (k : Int) < 100 := by omega
        have h1' : (k : Int) < (len : Int) := by omega
        go_wp2
        go_ret
        exact ⟨_, rfl, by rw [hend.out]; exact HP.out, HB.out⟩
      · have h1' : ¬ (k : Int) < (len : Int) := by omega
        go_wp2
        go_ret
        exact ⟨_, rfl, by rw [hend.out]; exact HP.out, HB.out⟩
end Go.Proofs.YtgifcgniphncdaaGreatDoor

/-
  'flush': all that waits, on a log whose power does not go.
-/
set_option linter.unusedVariables false
set_option linter.unusedSimpArgs false
namespace Go.Proofs.YtgifcgniphncdaaGreatDoor
open Go.RowKit Go.Maps

/-- How many operations there are to do. -/
def leftF (L : Lg) : Nat := (if L.step = 0 then 0 else 4 - L.step) + (if L.wait.length = 0 then 0 else 4)
theorem rests_left {L : Lg} (h : L.step ≤ 3) : L.rests = decide (leftF L = 0) := by
  unfold Lg.rests leftF
  by_cases h0 : L.step = 0
  · by_cases hw : L.wait.length = 0
    · simp [h0, hw]
    · simp [h0, hw]
  · have : ¬ (4 - L.step = 0) := by omega
    simp [h0, this]
theorem left_7 {L : Lg} (h : L.step ≤ 3) : leftF L ≤ 7 := by
  unfold leftF
  split <;> split <;> omega
theorem goOn_leftF {L : Lg} {S : Dsk} (h3 : L.step ≤ 3) (h0 : L.step = 0 → 1 ≤ L.wait.length) (hop : (L.op S).1 = 0) : leftF (L.goOn S) + 1 = leftF L := by
  unfold Lg.goOn
  rw [if_neg (by rw [hop]; simp)]
  by_cases s0 : L.step = 0
  · have := h0 s0
    unfold Lg.mid
    rw [if_neg (by omega), if_pos s0]
    unfold leftF
    simp only [s0, List.length_nil, if_true]
    rw [if_neg (by omega), if_neg (by omega)]
  · by_cases s3 : L.step = 3
    · rw [if_pos s3]
      have ew : L.mid.wait = L.wait := by
        unfold Lg.mid
        rw [if_neg s0]
        split <;> rfl
      unfold leftF
      simp only [ew, if_true]
      rw [if_neg s0]
      omega
    · rw [if_neg s3]
      have e : (if L.step = 0 then ({ L with seq := (L.seq + L.wait.length) % 18446744073709551616, grp := L.wait.length, wait := [] } : Lg) else if L.step = 2 then { L with seq := (L.seq + 1) % 18446744073709551616 } else L) = L.mid := rfl
      have ew : L.mid.wait = L.wait := by
        unfold Lg.mid
        rw [if_neg s0]
        split <;> rfl
      unfold leftF
      simp only [ew]
      rw [if_neg (by omega), if_neg s0]
      omega
end Go.Proofs.YtgifcgniphncdaaGreatDoor

/-
  A log on a disk whose power stays, and where there is room; all segments as they were written. No program in sight. (Printed by gen_w46.py out of W41.)
-/
set_option linter.unusedVariables false
set_option linter.unusedSimpArgs false
namespace Go.Proofs.YtgifcgniphncdaaGreatDoor
open Go.RowKit Go.Maps

/-! ### Segments as they were written -/
def cln : Int → Nat → List (List (List Int)) → List (List Int × Nat)
  | _, _, [] => []
  | n, q, B :: r => (fras q (fstB n :: B), (fras q (fstB n :: B)).length) :: cln (n + 1) (q + (B.length + 1)) r
def qn : Nat → List (List (List Int)) → Nat
  | q, [] => q
  | q, B :: r => qn (q + (B.length + 1)) r
def comsA : List (List (List Int)) → Option (List Cm)
  | [] => some []
  | B :: r => match coms B with | none => none | some k => (comsA r).map (k ++ ·)
theorem cln_len : ∀ (n : Int) (q : Nat) (Bs : List (List (List Int))), (cln n q Bs).length = Bs.length
  | _, _, [] => rfl
  | n, q, B :: r => by simp [cln, cln_len (n + 1) _ r]
theorem cln_snoc : ∀ (n : Int) (q : Nat) (Bs : List (List (List Int))) (B : List (List Int)), cln n q (Bs ++ [B]) = cln n q Bs ++ [(fras (qn q Bs) (fstB (n + Bs.length) :: B), (fras (qn q Bs) (fstB (n + Bs.length) :: B)).length)]
  | n, q, [], B => by simp [cln, qn]
  | n, q, C :: r, B => by
    have ih := cln_snoc (n + 1) (q + (C.length + 1)) r B
    simp only [List.cons_append, cln, qn, ih, List.length_cons]
    rw [show n + 1 + (r.length : Int) = n + ((r.length + 1 : Nat) : Int) by push_cast; omega]
theorem qn_snoc : ∀ (q : Nat) (Bs : List (List (List Int))) (B : List (List Int)), qn q (Bs ++ [B]) = qn q Bs + (B.length + 1)
  | q, [], B => rfl
  | q, C :: r, B => by
    show qn (q + (C.length + 1)) (r ++ [B]) = _
    rw [qn_snoc]
    rfl
theorem comsA_snoc : ∀ {Bs : List (List (List Int))} {cs : List Cm} {B : List (List Int)} {ks : List Cm}, comsA Bs = some cs → coms B = some ks → comsA (Bs ++ [B]) = some (cs ++ ks)
  | [], cs, B, ks, h, h2 => by
    simp only [comsA, Option.some.injEq] at h
    subst h
    simp [comsA, h2]
  | C :: r, cs, B, ks, h, h2 => by
    simp only [comsA] at h
    cases hc : coms C with
    | none => rw [hc] at h; cases h
    | some k =>
      rw [hc] at h
      simp only at h
      cases hr : comsA r with
      | none => rw [hr] at h; cases h
      | some k2 =>
        rw [hr] at h
        simp only [Option.map_some, Option.some.injEq] at h
        subst h
        have ih := comsA_snoc hr h2
        simp only [List.cons_append, comsA, hc, ih, Option.map_some]
        simp
/-- All well, and every segment as it was written. -/
structure LV (L : Lg) (S : Dsk) (pu : List Cm) (T M : Nat) (K : Int) (Z : Nat) (Bs : List (List (List Int))) (cs : List Cm) (B : List (List Int)) (ks wc : List Cm) (j : Nat) : Prop where
  up : S.up
  over : L.over = 0
  n : S.P.n ≤ K
  wl : Wl S.P 1 (cln 1 0 Bs ++ [live (1 + Bs.length) (qn 0 Bs) B j])
  ca : comsA Bs = some cs
  bs : ∀ B ∈ Bs, Okb B ∧ Seald B
  log : S.P.log = []
  seg : L.seg = 1 + Bs.length
  ok : Okb B
  cm : coms B = some ks
  wt : L.wait = wc.map cmb
  rt : ∀ c ∈ wc, rightC c = true
  all : pu = cs ++ ks ++ wc
  seq : L.seq = qn 0 Bs + (B.length + 1)
  bd : L.seq + L.wait.length ≤ M
  st : L.step ≤ 3
  jb : j ≤ B.length + 1
  z : L.step = 0 → j = B.length + 1
  t : Bs.length + 1 ≤ T
  sz : eo (fstB (1 + Bs.length) :: B) + 6752 * wc.length + pend L ≤ Z
  s2 : 96 + 6752 * wc.length ≤ Z
  sl : (L.step = 0 ∨ L.step = 3) → Seald B
def UpA (L : Lg) (S : Dsk) (pu : List Cm) (T M : Nat) (K : Int) (Z : Nat) : Prop := ∃ Bs cs B ks wc j, LV L S pu T M K Z Bs cs B ks wc j
section
variable {T M Z : Nat} {K : Int} {L : Lg} {S : Dsk} {pu : List Cm}
theorem UpA.mono (h : UpA L S pu T M K Z) {T' M' Z' : Nat} {K' : Int} (hT : T ≤ T') (hM : M ≤ M') (hK : K ≤ K') (hZ : Z ≤ Z') : UpA L S pu T' M' K' Z' := by
  obtain ⟨Bs, cs, B, ks, wc, j, h⟩ := h
  exact ⟨Bs, cs, B, ks, wc, j, { h with n := Int.le_trans h.n hK, bd := Nat.le_trans h.bd hM, t := Nat.le_trans h.t hT, sz := Nat.le_trans h.sz hZ, s2 := Nat.le_trans h.s2 hZ }⟩
theorem UpA.st (h : UpA L S pu T M K Z) : L.step ≤ 3 := by
  obtain ⟨Bs, cs, B, ks, wc, j, h⟩ := h
  exact h.st
theorem UpA.over (h : UpA L S pu T M K Z) : L.over = 0 := by
  obtain ⟨Bs, cs, B, ks, wc, j, h⟩ := h
  exact h.over
theorem UpA.put (h : UpA L S pu T M K Z) (c : Cm) : UpA (L.put c).2 S (if (L.put c).1.2 = 0 then pu ++ [c] else pu) T (M + 1) K (Z + 6752) := by
  have hm := h.mono (Nat.le_refl T) (Nat.le_succ M) (Int.le_refl K) (Nat.le_add_right Z 6752)
  have ho := h.over
  unfold Lg.put
  rw [if_neg (by rw [ho]; simp)]
  split
  · rename_i hr
    rw [if_pos rfl]
    obtain ⟨Bs, cs, B, ks, wc, j, h2⟩ := h
    refine ⟨Bs, cs, B, ks, wc ++ [c], j, { h2 with wt := ?_, rt := ?_, all := ?_, bd := ?_, sz := ?_, s2 := ?_ }⟩
    · simp [h2.wt]
    · intro x hx
      rcases List.mem_append.1 hx with hx | hx
      · exact h2.rt x hx
      · simp only [List.mem_singleton] at hx
        rw [hx]; exact hr
    · rw [h2.all]; simp
    · have := h2.bd
      show L.seq + (L.wait ++ [cmb c]).length ≤ M + 1
      rw [List.length_append, List.length_singleton]
      omega
    · have := h2.sz
      show _ + 6752 * (wc ++ [c]).length + pend L ≤ _
      rw [List.length_append, List.length_singleton]
      omega
    · have := h2.s2
      rw [List.length_append, List.length_singleton]
      omega
  · show UpA _ _ (if (80 : Int) = 0 then _ else _) _ _ _ _
    rw [if_neg (by decide)]
    exact hm
theorem UpA.goOn (h : UpA L S pu T M K Z) (hs : L.step = 0 → 1 ≤ L.wait.length) (hK : K < 65536) (hZ : Z ≤ 262144) (hM : M + 1 < 18446744073709551616) : UpA (L.goOn S) (L.op S).2 pu T (M + 1) (K + 1) Z ∧ (L.op S).1 = 0 := by
  obtain ⟨Bs, cs, B, ks, wc, j, h2⟩ := h
  have hov := goOn_over L S
  have hcl : (cln 1 0 Bs).length = Bs.length := cln_len _ _ _
  have hin : (cln 1 0 Bs ++ [live (1 + Bs.length) (qn 0 Bs) B j])[Bs.length]? = some (live (1 + Bs.length) (qn 0 Bs) B j) := by rw [← hcl]; simp
  have hset : ∀ y, (cln 1 0 Bs ++ [live (1 + Bs.length) (qn 0 Bs) B j]).set Bs.length y = cln 1 0 Bs ++ [y] := fun y => by rw [← hcl]; exact set_last _ _ _
  have hsq := h2.seq
  have hbd := h2.bd
  have hjb := h2.jb
  have hn := h2.n
  have hsz := h2.sz
  have hs2 := h2.s2
  have hwl : L.wait.length = wc.length := by rw [h2.wt, List.length_map]
  have hll : (live (1 + Bs.length) (qn 0 Bs) B j).1.length = eo (fstB (1 + Bs.length) :: B) := fras_len _ _
  by_cases s0 : L.step = 0
  · have eop : L.op S = S.app (nm8 L.seg) (fras L.seq L.wait) := by unfold Lg.op; rw [if_pos s0]
    have hby : Byt (fras L.seq L.wait) := by rw [h2.wt]; exact fras_byt _ _ (okb_cmb h2.rt)
    have hfl : (fras L.seq L.wait).length ≤ 6720 * wc.length := by rw [fras_len, h2.wt]; exact eo_cmb h2.rt
    have hes : eo (fstB (1 + Bs.length) :: (B ++ L.wait)) ≤ eo (fstB (1 + Bs.length) :: B) + 6720 * wc.length := by
      rw [← List.cons_append, eo_append, h2.wt]
      have := eo_cmb h2.rt
      omega
    have hs1 := hs s0
    have hp0 : pend L = 0 := by unfold pend; rw [if_neg (by omega)]
    rw [h2.seg] at eop
    obtain ⟨a1, a2, a3, a4, a5, a6, a7⟩ := dsk_app (h2.up.on _) h2.wl hin hby (by omega) (by omega)
    rw [hset, hsq, live_app hjb (by omega), ← hsq] at a2
    rw [← eop] at a1 a2 a3 a4 a5 a6 a7
    refine ⟨⟨Bs, cs, B ++ L.wait, ks ++ wc, [], j, ?_⟩, a1⟩
    have z1 := h2.z s0
    have e : L.goOn S = { L with seq := (L.seq + L.wait.length) % 18446744073709551616, grp := L.wait.length, wait := [], step := 1, over := 0 } := by
      unfold Lg.goOn Lg.mid
      rw [if_neg (by rw [a1]; simp), if_neg (by omega), if_pos s0, s0]
    rw [e]
    exact ⟨⟨a6.trans h2.up.1, a7⟩, rfl, by omega, a2, h2.ca, h2.bs, by rw [a4]; exact h2.log, h2.seg, (fun b hb => by
      rcases List.mem_append.1 hb with hb | hb
      · exact h2.ok b hb
      · rw [h2.wt] at hb; exact okb_cmb h2.rt b hb), by rw [h2.wt]; exact coms_add h2.cm (coms_cmb h2.rt), rfl, (fun c hc => by cases hc), by rw [h2.all]; simp, by
        show (L.seq + L.wait.length) % 18446744073709551616 = _
        rw [Nat.mod_eq_of_lt (by omega), List.length_append]; omega, by
        show (L.seq + L.wait.length) % 18446744073709551616 + 0 ≤ _
        rw [Nat.mod_eq_of_lt (by omega)]; omega, by show 1 ≤ 3; omega, by rw [List.length_append]; omega, (fun e => by cases e), h2.t, by
        show _ + 6752 * 0 + 32 ≤ _
        omega, by simp only [List.length_nil]; omega, fun e => by rcases e with e | e <;> cases e⟩
  · by_cases s2 : L.step = 2
    · have eop : L.op S = S.app (nm8 L.seg) (fra L.seq []) := by unfold Lg.op; rw [if_neg s0, if_pos s2]
      have hby : Byt (fra L.seq []) := fra_byt _ (fun x hx => by cases hx)
      have hfl : (fra L.seq []).length = 32 := by rw [fra_len]; rfl
      have hp0 : pend L = 32 := by unfold pend; rw [if_pos (.inr s2)]
      have hes : eo (fstB (1 + Bs.length) :: (B ++ [[]])) = eo (fstB (1 + Bs.length) :: B) + 32 := by
        rw [← List.cons_append, eo_append]
        rfl
      rw [h2.seg] at eop
      obtain ⟨a1, a2, a3, a4, a5, a6, a7⟩ := dsk_app (h2.up.on _) h2.wl hin hby (by omega) (by omega)
      rw [← eop] at a1 a2 a3 a4 a5 a6 a7
      rw [← fras_one, hset, hsq, live_app hjb (by omega)] at a2
      refine ⟨⟨Bs, cs, B ++ [[]], ks, wc, j, ?_⟩, a1⟩
      have e : L.goOn S = { L with seq := (L.seq + 1) % 18446744073709551616, step := 3, over := 0 } := by
        unfold Lg.goOn Lg.mid
        rw [if_neg (by rw [a1]; simp), if_neg (by omega), if_neg s0, if_pos s2, s2]
      rw [e]
      exact ⟨⟨a6.trans h2.up.1, a7⟩, rfl, by omega, a2, h2.ca, h2.bs, by rw [a4]; exact h2.log, h2.seg, (fun b hb => by
        rcases List.mem_append.1 hb with hb | hb
        · exact h2.ok b hb
        · simp only [List.mem_singleton] at hb
          rw [hb]; exact ⟨by simp, fun x hx => by cases hx⟩), by rw [coms_snoc h2.cm, if_pos rfl], h2.wt, h2.rt, h2.all, by
          show (L.seq + 1) % 18446744073709551616 = _
          rw [Nat.mod_eq_of_lt (by omega), List.length_append, List.length_singleton]; omega, by
          show (L.seq + 1) % 18446744073709551616 + L.wait.length ≤ _
          rw [Nat.mod_eq_of_lt (by omega)]; omega, Nat.le_refl _, by rw [List.length_append]; omega, (fun e => by cases e), h2.t, by
          show _ + 6752 * wc.length + 0 ≤ _
          omega, hs2, fun _ => .inr ⟨B, rfl⟩⟩
    · have eop : L.op S = S.sync (nm8 L.seg) := by unfold Lg.op; rw [if_neg s0, if_neg s2]
      rw [h2.seg] at eop
      obtain ⟨a1, a2, a3, a4, a5, a6, a7⟩ := dsk_sync (h2.up.on _) h2.wl hin (by omega)
      have el : ((live (1 + Bs.length) (qn 0 Bs) B j).1, (live (1 + Bs.length) (qn 0 Bs) B j).1.length) = live (1 + Bs.length) (qn 0 Bs) B (B.length + 1) := (live_all _ _ _).symm
      rw [hset, el] at a2
      rw [← eop] at a1 a2 a3 a4 a5 a6 a7
      have emid : L.mid = L := by unfold Lg.mid; rw [if_neg s0, if_neg s2]
      have hst := h2.st
      refine ⟨⟨Bs, cs, B, ks, wc, B.length + 1, ?_⟩, a1⟩
      unfold Lg.goOn
      rw [if_neg (by rw [a1]; simp), emid]
      by_cases s3 : L.step = 3
      · have hp0 : pend L = 0 := by unfold pend; rw [if_neg (by omega)]
        rw [if_pos s3]
        exact ⟨⟨a6.trans h2.up.1, a7⟩, rfl, by omega, a2, h2.ca, h2.bs, by rw [a4]; exact h2.log, h2.seg, h2.ok, h2.cm, h2.wt, h2.rt, h2.all, h2.seq, by show L.seq + L.wait.length ≤ _; omega, Nat.zero_le _, Nat.le_refl _, (fun _ => rfl), h2.t, by show _ + 6752 * wc.length + 0 ≤ _; omega, hs2, fun _ => h2.sl (.inr s3)⟩
      · have s1 : L.step = 1 := by omega
        have hp0 : pend L = 32 := by unfold pend; rw [if_pos (.inl s1)]
        rw [if_neg s3]
        exact ⟨⟨a6.trans h2.up.1, a7⟩, rfl, by omega, a2, h2.ca, h2.bs, by rw [a4]; exact h2.log, h2.seg, h2.ok, h2.cm, h2.wt, h2.rt, h2.all, h2.seq, by show L.seq + L.wait.length ≤ _; omega, by show L.step + 1 ≤ 3; omega, Nat.le_refl _, (fun e => by cases e), h2.t, by
          have : pend { L with step := L.step + 1, over := 0 } = 32 := by unfold pend; simp only [s1]; rfl
          rw [this]; omega, hs2, fun e => by rcases e with e | e <;> (simp only at e; omega)⟩
theorem UpA.flush (h : UpA L S pu T M K Z) (hK : K < 65536) (hZ : Z ≤ 262144) (hM : M + 1 < 18446744073709551616) : UpA (L.flush S).2.1 (L.flush S).2.2 pu T (M + 1) (K + 1) Z ∧ (L.flush S).1 = (decide (leftF (L.flush S).2.1 = 0), 0) ∧ leftF (L.flush S).2.1 = leftF L - 1 ∧ (L.flush S).2.1.seg = L.seg := by
  have hst := h.st
  unfold Lg.flush
  rw [if_neg (by rw [h.over]; simp)]
  by_cases hr : L.rests = true
  · rw [if_pos hr]
    rw [rests_left hst] at hr
    have : leftF L = 0 := by simpa using hr
    exact ⟨h.mono (Nat.le_refl _) (Nat.le_succ _) (by omega) (Nat.le_refl _), by simp [this]⟩
  · rw [if_neg hr]
    have h0 : L.step = 0 → 1 ≤ L.wait.length := fun s0 => by
      unfold Lg.rests at hr
      rw [s0] at hr
      simp at hr
      exact List.length_pos_iff.2 hr
    have hg := h.goOn h0 hK hZ hM
    have hl := goOn_leftF hst h0 hg.2
    refine ⟨hg.1, ?_, by simp only; omega, goOn_seg L S⟩
    simp only
    rw [hg.2, rests_left (hg.1.st)]
    simp
theorem UpA.fin : ∀ (k : Nat) {M : Nat} {K : Int} {L : Lg} {S : Dsk}, UpA L S pu T M K Z → K + k < 65536 → Z ≤ 262144 → M + k < 18446744073709551616 → UpA (L.fin S k).1 (L.fin S k).2 pu T (M + k) (K + k) Z
  | 0, M, K, L, S, h, _, _, _ => by
    show UpA L S pu T (M + 0) (K + ((0 : Nat) : Int)) Z
    exact h.mono (Nat.le_refl _) (Nat.le_refl _) (by simp) (Nat.le_refl _)
  | k + 1, M, K, L, S, h, hK, hZ, hM => by
    unfold Lg.fin
    split
    · exact h.mono (Nat.le_refl _) (by omega) (by omega) (Nat.le_refl _)
    · rename_i ho
      have h1 := (h.goOn (fun s0 => absurd (.inr s0) ho) (by omega) hZ (by omega)).1
      have h2 := UpA.fin k h1 (by omega) hZ (by omega)
      rw [show M + 1 + k = M + (k + 1) by omega, show K + 1 + (k : Int) = K + ((k + 1 : Nat) : Int) by omega] at h2
      exact h2
theorem UpA.turn (h : UpA L S pu T M K Z) (hK : K + 6 < 65536) (hZ : Z ≤ 262144) (hM : M + 4 < 18446744073709551616) (hT : T < 64) : UpA (L.turn S).2.1 (L.turn S).2.2 pu (T + 1) (M + 4) (K + 6) Z ∧ (L.turn S).1 = (L.seg + 1, 0) ∧ (L.turn S).2.1.seg = L.seg + 1 := by
  have hf := UpA.fin 3 h (by omega) hZ (by omega)
  have hseg := fin_seg 3 L S
  have hz := fin_zero 3 L S h.st (by have := h.st; unfold Lg.left; split <;> omega)
  unfold Lg.turn
  rw [if_neg (by rw [h.over]; simp), if_neg (by rw [hf.over]; simp)]
  generalize L.fin S 3 = X at *
  obtain ⟨L', S'⟩ := X
  simp only at hf hseg hz ⊢
  have hz' : L'.step = 0 := hz.resolve_left (by rw [hf.over]; simp)
  obtain ⟨Bs, cs, B, ks, wc, j, g2⟩ := hf
  have z1 := g2.z hz'
  have hsq := g2.seq
  have hbd := g2.bd
  have ht := g2.t
  have hn := g2.n
  have hwl := g2.wl
  have hs2 := g2.s2
  have hsl := g2.sl (.inl hz')
  rw [z1, live_all, ← cln_snoc] at hwl
  have hln : (cln 1 0 (Bs ++ [B])).length = Bs.length + 1 := by rw [cln_len]; simp
  have en : L.seg + 1 = 1 + ((cln 1 0 (Bs ++ [B])).length : Int) := by
    have := g2.seg
    rw [hln]; omega
  have en2 : L.seg + 1 = 1 + (((Bs ++ [B]).length : Nat) : Int) := by
    have := g2.seg
    rw [List.length_append, List.length_singleton]; omega
  have hqn : qn 0 (Bs ++ [B]) = L'.seq := by rw [qn_snoc, hsq]
  have hbg := beg_up g2.up hwl L'.seq (by omega) (by omega) (by omega)
  rw [← en] at hbg
  obtain ⟨b1, b2, b3, b4, b5⟩ := hbg
  refine ⟨⟨Bs ++ [B], cs ++ ks, [], [], wc, 1, ?_⟩, by rw [if_neg (by rw [b1]; simp)], trivial⟩
  have e1 : live (L.seg + 1) L'.seq [] 1 = (fra L'.seq (fstB (L.seg + 1)), (fra L'.seq (fstB (L.seg + 1))).length) := by
    have := live_all (L.seg + 1) L'.seq []
    rw [fras_one] at this
    exact this
  refine ⟨b5, b1, by show (beg S' (L.seg + 1) L'.seq).2.P.n ≤ _; omega, by rw [← en2, hqn, e1]; exact b2, comsA_snoc g2.ca g2.cm, (fun C hC => ?_), b4, en2, (fun b hb => by cases hb), rfl, g2.wt, g2.rt, by rw [g2.all]; simp, ?_, ?_, g2.st, by simp, (fun _ => rfl), by rw [List.length_append, List.length_singleton]; omega, ?_, hs2, fun _ => .inl rfl⟩
  · rcases List.mem_append.1 hC with hC | hC
    · exact g2.bs C hC
    · simp only [List.mem_singleton] at hC
      rw [hC]; exact ⟨g2.ok, hsl⟩
  · show (L'.seq + 1) % 18446744073709551616 = qn 0 (Bs ++ [B]) + (0 + 1)
    rw [Nat.mod_eq_of_lt (by omega), hqn]
  · show (L'.seq + 1) % 18446744073709551616 + L'.wait.length ≤ _
    rw [Nat.mod_eq_of_lt (by omega)]; omega
  · have e3 : pend { L' with seg := L.seg + 1, seq := (L'.seq + 1) % 18446744073709551616, over := (beg S' (L.seg + 1) L'.seq).1 } = 0 := by
      unfold pend
      simp only
      rw [hz', if_neg (by omega)]
    rw [e3]
    have e4 : eo [fstB (1 + (((Bs ++ [B]).length : Nat) : Int))] ≤ 64 := by
      simp only [eo]
      have := fstB_len (1 + (((Bs ++ [B]).length : Nat) : Int))
      unfold nb
      omega
    omega
end
theorem UpA.play {Z : Nat} : ∀ (os : List OpQ) {p : Py} {T M : Nat} {K : Int}, UpA p.L p.S p.put (T + p.turns) M K (Z + 6752 * p.many) → p.turns ≤ 20 → p.many ≤ 18 → T + 20 < 64 → Z + 6752 * 18 ≤ 262144 → K + 6 * os.length < 65536 → M + 4 * os.length < 18446744073709551616 → UpA (p.play os).L (p.play os).S (p.play os).put (T + 20) (M + 4 * os.length) (K + 6 * os.length) (Z + 6752 * 18)
  | [], p, T, M, K, h, ht, hm, hT, hZ, hK, hM => h.mono (by omega) (by simp) (by simp) (by omega)
  | o :: r, p, T, M, K, h, ht, hm, hT, hZ, hK, hM => by
    rw [List.length_cons] at hM hK
    push_cast at hK
    have hs : UpA (p.step o).L (p.step o).S (p.step o).put (T + (p.step o).turns) (M + 4) (K + 6) (Z + 6752 * (p.step o).many) ∧ (p.step o).turns ≤ 20 ∧ (p.step o).many ≤ 18 := by
      have hmn := h.mono (Nat.le_refl _) (show M ≤ M + 4 by omega) (show K ≤ K + 6 by omega) (Nat.le_refl _)
      unfold Py.step
      split
      · split
        · rename_i h18
          have := (h.put o.c).mono (Nat.le_refl _) (show M + 1 ≤ M + 4 by omega) (show K ≤ K + 6 by omega) (show Z + 6752 * p.many + 6752 ≤ Z + 6752 * (p.many + 1) by omega)
          exact ⟨this, ht, by show p.many + 1 ≤ 18; omega⟩
        · exact ⟨hmn, ht, hm⟩
      · split
        · split
          · exact ⟨(h.turn (by omega) (by omega) (by omega) (by omega)).1, by show p.turns + 1 ≤ 20; omega, hm⟩
          · exact ⟨hmn, ht, hm⟩
        · split
          · exact ⟨hmn, ht, hm⟩
          · exact ⟨((h.flush (by omega) (by omega) (by omega)).1).mono (Nat.le_refl _) (by omega) (by omega) (Nat.le_refl _), ht, hm⟩
    have := UpA.play r hs.1 hs.2.1 hs.2.2 hT hZ (by omega) (by omega)
    rw [show M + 4 + 4 * r.length = M + 4 * (r.length + 1) by omega, show K + 6 + 6 * (r.length : Int) = K + 6 * ((r.length + 1 : Nat) : Int) by push_cast; omega] at this
    rw [List.length_cons]
    exact this
end Go.Proofs.YtgifcgniphncdaaGreatDoor

/-
  'shown': the document's examples, played.
-/
set_option linter.unusedVariables false
set_option linter.unusedSimpArgs false
namespace Go.Proofs.YtgifcgniphncdaaGreatDoor
open Go.RowKit Go.Maps

/-- The states of the three flushes. -/
def stx : Nat → Lg × Dsk
  | 0 => (lD, sB)
  | k + 1 => ((stx k).1.flush (stx k).2).2
theorem stx_ans (k : Nat) (hk : k < 3) : ((stx k).1.flush (stx k).2).1 = (false, 0) := by
  match k, hk with
  | 0, _ => exact flush1.1
  | 1, _ => exact flush2.1
  | 2, _ => exact flush3.1
theorem stx3 : stx 3 = q3x.2 := rfl
theorem nm3 : nm8 3 = ⟨#[108, 111, 103, 45, 51]⟩ := by
  apply ByteArray.ext
  show (nmL 3).toArray = _
  unfold nmL
  rw [show (3 : Int) = ((3 : Nat) : Int) from rfl, itoa_nat, Lib.decDigits_one (by decide)]
  rfl

set_option maxRecDepth 100000 in
set_option maxHeartbeats 8000000 in
theorem shown8_any {B0 : Nat} (w : World) (hg0 : Gl B0 w) (hB0 : B0 ≤ w.heap.size) : Calls Tryz.prog 8 #[] w fun e w' => e = .returned (.bool true) ∧ Below w.heap.size w w' := by
  have HG := hid8 (hg0.up hB0)
  clear hg0 hB0
  go_enter Tryz.func8, Tryz.ntmps8
  go_wp2_with fail
  refine (dv_new w).mono ?_
  rintro e w1 ⟨d, rfl, hD, hb1⟩
  have hz1 := hb1.size
  have HOP := hid8 (walOpen_any (B := w.heap.size) (show DV w1 _ d sA from hD) (fun j hj => hj.1) hz1 (HG.out.on hb1) 1)
  clear hD
  have HB1 := hid8 hb1
  clear hb1
  go_wp2_with fail
  refine HOP.out.mono ?_
  rintro e w2 ⟨er, x, S', hop, hf, hres⟩
  obtain ⟨rfl, rfl, rfl⟩ := openA hop
  have hb2 : Below w.heap.size w1 w2 := hf.to (fun k hk e => by have := e.1; omega) hz1
  rcases hres with ⟨h, -⟩ | ⟨L, cs, l, vc, A, C, hx, rfl, hpm, hcr, -, -⟩
  · cases h
  simp only [Option.some.injEq, Prod.mk.injEq] at hx
  obtain ⟨rfl, rfl⟩ := hx
  obtain ⟨av, cv, rfl⟩ := hcr.len
  have HB2 := hid8 (HB1.out.trans hb2)
  have HP2 : Hid (PX w2 w.heap.size l d sB lB 0) := hid8 ⟨A, hpm⟩
  have HOS := hid8 (pxOps HP2.out)
  rw [wlB.2.1] at HOS
  clear HOP hop hf hb2 hpm hcr HB1 hz1
  simp only [List.length_nil]
  go_wp2_with fail
  refine HOS.out.mono ?_
  rintro e w3 ⟨rfl, rfl⟩
  clear HOS
  -- two are put
  go_wp2_with fail
  refine (one_any 1 w3).mono ?_
  rintro e w4 ⟨a4, rfl, hs4, hb4⟩
  have HP4 := hid8 (HP2.out.below hb4)
  have HB4 := hid8 (HB2.out.trans (hb4.mono HP2.out.bw))
  have HPU := hid8 (pxPut HP4.out (by decide) hs4 1)
  rw [show lB.put ⟨1, [w1x]⟩ = lB.put c1x from rfl, show (lB.put c1x).1 = (1, 0) from by rw [put1]] at HPU
  clear hs4 hb4 HP4 HP2 HB2
  go_wp2_with fail
  refine HPU.out.mono ?_
  rintro e w5 ⟨rfl, hp5, hb5⟩
  have HP5 : Hid (PX w5 w.heap.size l d sB lC 1) := hid8 hp5
  have HB5 := hid8 (HB4.out.trans hb5)
  clear HPU hp5 hb5 HB4
  go_wp2_with fail
  refine (one_any 2 w5).mono ?_
  rintro e w6 ⟨a6, rfl, hs6, hb6⟩
  have HP6 := hid8 (HP5.out.below hb6)
  have HB6 := hid8 (HB5.out.trans (hb6.mono HP5.out.bw))
  have HPU := hid8 (pxPut HP6.out (by decide) hs6 2)
  rw [show lC.put ⟨2, [w1x]⟩ = lC.put c2x from rfl, show (lC.put c2x).1 = (2, 0) from by rw [put2]] at HPU
  clear hs6 hb6 HP6 HP5 HB5
  go_wp2_with fail
  refine HPU.out.mono ?_
  rintro e w7 ⟨rfl, hp7, hb7⟩
  have HP7 : Hid (PX w7 w.heap.size l d (stx 0).2 (stx 0).1 2) := hid8 hp7
  have HB7 := hid8 (HB6.out.trans hb7)
  clear HPU hp7 hb7 HB6
  go_wp2
  go_loopw [9, 10, 11] (fun i _ _ wr => ∃ k : Nat, k ≤ 3 ∧ i = .int .i64 (k : Int) ∧ PX wr w.heap.size l d (stx k).2 (stx k).1 2 ∧ Below w.heap.size w wr) (fun i _ _ _ => 3 - (intOf i).toNat)
  case atStart => exact ⟨0, by omega, rfl, HP7.out, HB7.out⟩
  case round =>
    clear HP7 HB7
    obtain ⟨k, hk, rfl, hp, hb⟩ := hrel
    obtain ⟨wR, hwR⟩ : ∃ x, x = wr := ⟨_, rfl⟩
    subst hwR
    by_cases hk3 : k < 3
    · have HFl := hid8 (pxFlush hp)
      rw [stx_ans k hk3] at HFl
      have HB := hid8 hb
      have hk4 : (k : Int) < 3 := by omega
      clear hp hb
      go_wp2_with fail
      refine HFl.out.mono ?_
      rintro e w8 ⟨rfl, hp8, hb8⟩
      have HP8 : Hid (PX w8 w.heap.size l d (stx (k + 1)).2 (stx (k + 1)).1 2) := hid8 hp8
      have HB8 := hid8 (HB.out.trans hb8)
      clear HFl hp8 hb8 HB
      go_wp2
      go_roundw
      case rel => exact ⟨k + 1, by omega, by go_num, HP8.out, HB8.out⟩
      case measure => simp [intOf]; omega
    · obtain rfl : k = 3 := by omega
      rw [stx3] at hp
      have HB := hid8 hb
      have HFd := hid8 (pxFlushed hp)
      rw [show q3x.2.1.done = 0 from by rw [flush3.2.1]] at HFd
      have HFl := hid8 (pxFlush hp)
      rw [show q3x.2.1.flush q3x.2.2 = q4x from rfl, flush4.1] at HFl
      clear hp hb
      go_wp2_with fail
      refine HFd.out.mono ?_
      rintro e w8 ⟨rfl, rfl⟩
      clear HFd
      go_wp2_with fail
      refine HFl.out.mono ?_
      rintro e w9 ⟨rfl, hp9, hb9⟩
      have HB9 := hid8 (HB.out.trans hb9)
      have HRo := hid8 (pxRotate hp9)
      rw [show q4x.2.1.turn q4x.2.2 = q5x from rfl, turn5.1] at HRo
      clear HFl hp9 hb9 HB
      go_wp2_with fail
      refine HRo.out.mono ?_
      rintro e wA ⟨rfl, hpA, hbA⟩
      obtain ⟨AA, ⟨⟨D, v, d1, d2, d3, d4⟩, hal, hAl, hBw, hgA, okA⟩⟩ := hpA
      have HBA := hid8 (HB9.out.trans hbA)
      have hnD : ¬ D l := fun e => (d4 l e).2 rfl
      have HO1 := hid8 (walOpen_any (B := w.heap.size) d1 (fun j hj => (hAl j (d4 j hj).1).1) hBw hgA 1)
      have HLm := hid8 d2
      have HDl : Hid (∀ j, D j → w.heap.size ≤ j) := hid8 (fun j hj => (hAl j (d4 j hj).1).1)
      have HLl : Hid (∀ j, D j → j < wA.heap.size) := hid8 d1.lt
      clear HRo hbA HB9 d1 d2 d3 d4 hAl hgA okA hal
      go_wp2_with fail
      refine HO1.out.mono ?_
      rintro e wB ⟨er, x, S', hop, hf, hres⟩
      obtain ⟨rfl, L6, rfl⟩ := open6 hop
      rcases hres with ⟨h, -⟩ | ⟨L, cs, l2, vc, A2, C2, hx, rfl, hpm, hcr, hA2, -⟩
      · cases h
      simp only [Option.some.injEq, Prod.mk.injEq] at hx
      obtain ⟨rfl, rfl⟩ := hx
      obtain ⟨av2, cv2, rfl⟩ := hcr.len
      have hzB := hf.size
      have HBB := hid8 (HBA.out.trans (hf.to (fun k hk e => by have := HDl.out k e; omega) hBw))
      have HLB := hid8 (HLm.out.fr hf hnD)
      obtain ⟨⟨D2, v2, g1, g2, g3, g4⟩, hal2, hAl2, hBw2, hgB, okB⟩ := hpm
      have HO2 := hid8 (walOpen_any (B := w.heap.size) g1 (fun j hj => (hAl2 j (g4 j hj).1).1) hBw2 hgB 0)
      have hDD : Hid (∀ j, D2 j → w.heap.size ≤ j) := hid8 (fun j hj => (hAl2 j (g4 j hj).1).1)
      have hnD2 : ¬ D2 l := fun e => by
        rcases hA2 l (g4 l e).1 with q | q
        · exact hnD q
        · have := HLm.out.lt; have := q.1; omega
      have HGB := hid8 hgB
      clear HO1 hop hf hcr hA2 g1 g2 g3 g4 hal2 hAl2 hgB okB HLm HBA
      simp only [List.length_cons, List.length_nil]
      go_wp2_with fail
      refine HO2.out.mono ?_
      rintro e wC ⟨er, x, S', hop, hf, hres⟩
      obtain ⟨rfl, rfl⟩ := open7 hop
      rcases hres with ⟨-, rfl, -⟩ | ⟨L, cs, l3, vc, A3, C3, hx, -⟩
      rotate_left
      · cases hx
      have hbC := hf.to (n := w.heap.size) (fun k hk e => by have := hDD.out k e; omega) hBw2
      have HBC := hid8 (HBB.out.trans hbC)
      have HLC := hid8 (HLB.out.fr hf hnD2)
      have HFd := hid8 (walFlushed_any HLC.out)
      rw [turn5.2.1] at HFd
      have HNm := hid8 (name_any (HGB.out.on hbC) 3 (by decide) (by decide))
      rw [nm3] at HNm
      clear HO2 hop hf hbC HBB HLB HLC
      go_wp2_with fail
      refine HFd.out.mono ?_
      rintro e wD ⟨rfl, rfl⟩
      clear HFd
      go_wp2_with fail
      refine HNm.out.mono ?_
      rintro e wE ⟨rfl, hbE⟩
      have HBE := hid8 (HBC.out.trans (hbE.mono (by have := HBC.out.size; omega)))
      clear HNm hbE HBC
      go_wp2
      go_ret
      exact ⟨rfl, HBE.out⟩
end Go.Proofs.YtgifcgniphncdaaGreatDoor

/-
  Around a log: the power, opening what is read, rows of commits that are copied.
-/
set_option linter.unusedVariables false
set_option linter.unusedSimpArgs false
namespace Go.Proofs.YtgifcgniphncdaaGreatDoor
open Go.RowKit Go.Maps

section
variable {w : World} {B : Nat} {A D : Nat → Prop} {l d : Nat} {S : Dsk} {L : Lg} {N : Nat}
end
/-- A row that was put together is read, all of it below. -/
theorem Pz.cs {w : World} {B : Nat} {Z : Nat → Prop} {l d : Nat} {v : Value} {p : Py} (h : Pz w B Z l d v p) : ∃ ao cap, v = .slice ao p.put.length cap ∧ CS w (fun j => j < w.heap.size) ao p.put.length cap p.put := by
  obtain ⟨ao, cap, rfl, hc⟩ := h.pu.cs8
  exact ⟨ao, cap, rfl, hc.mono fun j hj => hj.elim (fun e => h.pu.lt j e) (fun e => h.zl j e)⟩
end Go.Proofs.YtgifcgniphncdaaGreatDoor

/-
  How scripts and fates that came in are opened.
-/
set_option linter.unusedVariables false
set_option linter.unusedSimpArgs false
namespace Go.Proofs.YtgifcgniphncdaaGreatDoor
open Go.RowKit Go.ChangeShapes Go.WideShapes Go.ChangeAt

theorem cells8Op : Tryz.prog.cellsOf 42 = 9 := by kernel_rfl
theorem cells8Int : Tryz.prog.cellsOf 3 = 1 := by kernel_rfl
theorem cells8I64 : Tryz.prog.cellsOf 2 = 1 := by kernel_rfl
theorem cells8Str : Tryz.prog.cellsOf 9 = 1 := by kernel_rfl
theorem cells8Bool : Tryz.prog.cellsOf 4 = 1 := by kernel_rfl
theorem cells8Byt : Tryz.prog.cellsOf 40 = 1 := by kernel_rfl
theorem cells8Fate : Tryz.prog.cellsOf 39 = 3 := by kernel_rfl
theorem cells8Com : Tryz.prog.cellsOf 37 = 2 := by kernel_rfl
theorem cells8Wr : Tryz.prog.cellsOf 85 = 3 := by kernel_rfl
theorem cells8Ws : Tryz.prog.cellsOf 35 = 1 := by kernel_rfl
section
variable {H : Type} {enc : TypeId × Value → H} {W : World} {base : Nat} {v : Value} {d : DataW H} {p : List MemPlace}
set_option maxRecDepth 100000 in
theorem write8_of {n : Nat} {cs : List Value} {y : DataW H × List MemPlace} (hl : cs.length = 3) (ht : DataW.trod enc Tryz.prog W 0 (fun _ => true) true n 85 cs = some y) : ∃ o : Wr, True ∧ cs = o.cells := by
  obtain ⟨xs, m, _, _, _, hxl, hfs⟩ := DataW.trod_struct Tryz.underlying85 ht
  have hx3 : xs.length = 3 := hxl
  match cs, hl with
  | [c0, c1, c2], _ =>
    obtain ⟨y0, e0⟩ := some_at hx3 (i := 0) (by omega)
    obtain ⟨y1, e1⟩ := some_at hx3 (i := 1) (by omega)
    obtain ⟨y2, e2⟩ := some_at hx3 (i := 2) (by omega)
    have h0 := (field_at hfs 0 9 0 _ cells8Str rfl).trans e0
    have h1 := (field_at hfs 1 9 1 _ cells8Str rfl).trans e1
    have h2 := (field_at hfs 2 4 2 _ cells8Bool rfl).trans e2
    dsimp only [List.drop, List.take] at h0 h1 h2
    obtain ⟨k0, q0, _, _⟩ := DataW.trod_string Tryz.underlying9 h0
    obtain ⟨k1, q1, _, _⟩ := DataW.trod_string Tryz.underlying9 h1
    obtain ⟨k2, q2, _⟩ := DataW.trod_bool Tryz.underlying4 h2
    simp only [List.cons.injEq, and_true] at q0 q1 q2
    subst q0 q1 q2
    exact ⟨⟨k0, k1, k2⟩, trivial, rfl⟩
def OpQ.ok (W : World) (o : OpQ) : Prop := Seq 3 Wr.cells W o.au o.lu o.cu o.ws ∧ -9223372036854775808 ≤ o.kind ∧ o.kind ≤ 9223372036854775807
theorem slice_of {t e : TypeId} (ht : Tryz.prog.underlying t = some (.slice e)) {n : Nat} {c : Value} {y : DataW H × List MemPlace} (h : DataW.trod enc Tryz.prog W 0 (fun _ => true) true n t [c] = some y) : ∃ a l c', c = .slice a l c' := by
  rcases DataW.trod_slice ht h with ⟨e, _⟩ | ⟨a, l, c, _, _, _, _, e, _⟩
  · exact ⟨none, 0, 0, by simpa using e⟩
  · exact ⟨some a, l, c, by simpa using e⟩
set_option maxRecDepth 100000 in
theorem op8_of {n : Nat} {cs : List Value} {y : DataW H × List MemPlace} (hl : cs.length = 9) (ht : DataW.trod enc Tryz.prog W 0 (fun _ => true) true n 42 cs = some y) : ∃ o : OpQ, o.ok W ∧ cs = o.cells := by
  obtain ⟨xs, m, _, _, _, hxl, hfs⟩ := DataW.trod_struct Tryz.underlying42 ht
  have hx6 : xs.length = 6 := hxl
  match cs, hl with
  | [c0, c1, c2, c3, c4, c5, c6, c7, c8], _ =>
    obtain ⟨y0, e0⟩ := some_at hx6 (i := 0) (by omega)
    obtain ⟨y1, e1⟩ := some_at hx6 (i := 1) (by omega)
    obtain ⟨y2, e2⟩ := some_at hx6 (i := 2) (by omega)
    obtain ⟨y3, e3⟩ := some_at hx6 (i := 3) (by omega)
    obtain ⟨y4, e4⟩ := some_at hx6 (i := 4) (by omega)
    obtain ⟨y5, e5⟩ := some_at hx6 (i := 5) (by omega)
    have h0 := (field_at hfs 0 3 0 _ cells8Int rfl).trans e0
    have h1 := (field_at hfs 1 37 1 _ cells8Com rfl).trans e1
    have h2 := (field_at hfs 2 3 3 _ cells8Int rfl).trans e2
    have h3 := (field_at hfs 3 3 4 _ cells8Int rfl).trans e3
    have h4 := (field_at hfs 4 39 5 _ cells8Fate rfl).trans e4
    have h5 := (field_at hfs 5 40 8 _ cells8Byt rfl).trans e5
    dsimp only [List.drop, List.take] at h0 h1 h2 h3 h4 h5
    obtain ⟨k0, q0, _, w0⟩ := DataW.trod_int Tryz.underlying3 h0
    obtain ⟨k2, q2, _, _⟩ := DataW.trod_int Tryz.underlying3 h2
    obtain ⟨k3, q3, _, _⟩ := DataW.trod_int Tryz.underlying3 h3
    obtain ⟨us, m1, _, _, _, hul, hus⟩ := DataW.trod_struct Tryz.underlying37 h1
    have hu2 : us.length = 2 := hul
    obtain ⟨u0, f0⟩ := some_at hu2 (i := 0) (by omega)
    obtain ⟨u1, f1⟩ := some_at hu2 (i := 1) (by omega)
    have g0 := (field_at hus 0 2 0 _ cells8I64 rfl).trans f0
    have g1 := (field_at hus 1 35 1 _ cells8Ws rfl).trans f1
    dsimp only [List.drop, List.take] at g0 g1
    obtain ⟨k1, q1, _, _⟩ := DataW.trod_int Tryz.underlying2 g0
    obtain ⟨au, lu, cu, qs⟩ := slice_of Tryz.underlying35 g1
    subst qs
    obtain ⟨ws, _, hs, _⟩ := open_seq (enc := enc) (W := W) Wr.cells (fun _ => True) Tryz.underlying35 cells8Wr (by decide) (fun _ _ => rfl) (fun m cs y hl hy => write8_of hl hy) (⟨_, g1⟩ : DataW.Trod enc Tryz.prog W 0 (fun _ => true) true 35 (.slice au lu cu) _ _)
    obtain ⟨zs, m2, _, _, _, hzl, hzs⟩ := DataW.trod_struct Tryz.underlying39 h4
    have hz3 : zs.length = 3 := hzl
    obtain ⟨z0, r0⟩ := some_at hz3 (i := 0) (by omega)
    obtain ⟨z1, r1⟩ := some_at hz3 (i := 1) (by omega)
    obtain ⟨z2, r2⟩ := some_at hz3 (i := 2) (by omega)
    have s0 := (field_at hzs 0 3 0 _ cells8Int rfl).trans r0
    have s1 := (field_at hzs 1 3 1 _ cells8Int rfl).trans r1
    have s2 := (field_at hzs 2 3 2 _ cells8Int rfl).trans r2
    dsimp only [List.drop, List.take] at s0 s1 s2
    obtain ⟨k5, q5, _, _⟩ := DataW.trod_int Tryz.underlying3 s0
    obtain ⟨k6, q6, _, _⟩ := DataW.trod_int Tryz.underlying3 s1
    obtain ⟨k7, q7, _, _⟩ := DataW.trod_int Tryz.underlying3 s2
    obtain ⟨ar, lr, cr, qr⟩ := slice_of Tryz.underlying40 h5
    subst qr
    have b0 := bounds_i64 w0
    simp only [List.cons.injEq, and_true] at q0 q1 q2 q3 q5 q6 q7
    subst q0 q1 q2 q3 q5 q6 q7
    exact ⟨⟨k0, k1, ws, au, lu, cu, k2, k3, k5, k6, k7, ar, lr, cr⟩, ⟨hs, b0.1, b0.2⟩, rfl⟩
theorem seq_lt {α : Type} {k : Nat} {f : α → List Value} {a : Option Addr} {l c : Nat} {xs : List α} (h : Seq k f W a l c xs) : ∀ b off, a = some ⟨b, off, none⟩ → 0 < l → b < W.heap.size := fun b off e hl => by
  obtain ⟨b', off', e', hlt, _⟩ := h.2.2.2 hl
  rw [e] at e'
  cases e'
  exact hlt
theorem open_script8 {a : Option Addr} {len cap : Nat} (h : DataW.Trod enc Tryz.prog W 0 (fun _ => true) true 22 (.slice a len cap) d p) : ∃ os, Sq W W.heap.size a len cap os := by
  obtain ⟨os, h1, h2, _⟩ := open_seq (enc := enc) (W := W) OpQ.cells (OpQ.ok W) Tryz.underlying22 cells8Op (by decide) (fun _ _ => rfl) (fun m cs y hl hy => op8_of hl hy) h
  exact ⟨os, h2, seq_lt h2, fun o ho => ⟨(h1 o ho).1, seq_lt (h1 o ho).1, (h1 o ho).2⟩⟩
end
end Go.Proofs.YtgifcgniphncdaaGreatDoor
