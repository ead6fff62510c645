/-
  Open.
-/
import Derived.Test.YtgifcgniphncdaaGreatDoorLa30
import Derived.Test.YtgifcgniphncdaaGreatDoorLa35
import Derived.Test.YtgifcgniphncdaaGreatDoorLa38
import Derived.Test.YtgifcgniphncdaaGreatDoorLa29
import Derived.Test.YtgifcgniphncdaaGreatDoorLa37
import Derived.Test.YtgifcgniphncdaaGreatDoorLa24
import Derived.Deep.DeepCutAuto
import Derived.Test.YtgifcgniphncdaaGreatDoorLa20
import Derived.Test.YtgifcgniphncdaaGreatDoorRows
import Derived.ProofKit
import Derived.OpenShut
set_option linter.unusedVariables false
set_option linter.unusedSimpArgs false
namespace Go.Proofs.YtgifcgniphncdaaGreatDoor
open Go.RowKit Go.Maps

/-- What Open answers, and leaves. -/
def OpL (w w' : World) (B : Nat) (D : Nat → Prop) (d : Nat) (S : Dsk) (first : Int) (e : Ending) : Prop :=
  ∃ er x S', OpenR S first er x S' ∧ Fr D w w' ∧
    ((x = none ∧ e = .returned (.tuple #[.pointer none, .slice none 0 0, .int .i64 er]) ∧ DV w' (Land.more D w w') d S') ∨
    ∃ L cs l vc A C, x = some (L, cs) ∧ e = .returned (.tuple #[.pointer (some ⟨l, 0, none⟩), vc, .int .i64 er]) ∧ PM w' B A l d S' L 0 ∧ CRow w' C vc cs ∧ (∀ j, A j → Land.more D w w' j) ∧ (∀ j, C j → w.heap.size ≤ j ∧ j < w'.heap.size ∧ ¬ A j))
theorem gap_eq (P : PD) (first : Int) : gap P first = (segs P).any (gapP first (segs P)) := rfl
theorem DV.up {w w' : World} {D : Nat → Prop} {d : Nat} {S : Dsk} (h : DV w D d S) (hb : Below w.heap.size w w') : DV w' (Land.more D w w') d S := (h.below hb).mono (fun j hj => .inl hj) (more_lt h.lt hb.size)

section
variable {w : World} {B : Nat} {D : Nat → Prop} {d : Nat} {S : Dsk}
set_option maxRecDepth 100000 in
theorem open_arg (hD : DV w D d S) (first : Int) (h : first < 1 ∨ 1073741824 < first) :
    Calls Tryz.prog 17 #[.pointer (some ⟨d, 0, none⟩), .int .i64 first] w fun e w' => OpL w w' B D d S first e := by
  have HR : Hid (OpL w w B D d S first (.returned (.tuple #[.pointer none, .slice none 0 0, .int .i64 2]))) := hid8 ⟨2, none, S, .arg h, Fr.refl _ _, .inl ⟨rfl, rfl, hD.up (Below.refl _ _)⟩⟩
  clear hD
  rcases h with h | h
  · have h1 : decide (first < 1) = true := by simpa using h
    go_enter Tryz.func17, Tryz.ntmps17
    go_wp2
    try simp only [Exit.inBlock, Exit.then]
    refine bodyPost_ret (results_tmp3 rfl _ _ _) rfl ?_
    exact HR.out
  · have h1 : decide (first < 1) = false := by simp; omega
    have h2 : decide (1073741824 < first) = true := by simpa using h
    go_enter Tryz.func17, Tryz.ntmps17
    go_wp2
    try simp only [Exit.inBlock, Exit.then]
    refine bodyPost_ret (results_tmp3 rfl _ _ _) rfl ?_
    exact HR.out
set_option maxRecDepth 100000 in
set_option maxHeartbeats 2000000 in
theorem open_off (hD : DV w D d S) (hB : B ≤ w.heap.size) (hg : Gl B w) (first : Int) (h0 : 1 ≤ first) (h1 : first ≤ 1073741824) (ho : S.o = true) :
    Calls Tryz.prog 17 #[.pointer (some ⟨d, 0, none⟩), .int .i64 first] w fun e w' => OpL w w' B D d S first e := by
  have d1 : decide (first < 1) = false := by simp; omega
  have d2 : decide (1073741824 < first) = false := by simp; omega
  have HN := hid8 (name_any hg first (by omega) (by omega))
  have HD := hid8 hD
  clear hD
  go_enter Tryz.func17, Tryz.ntmps17
  go_wp2_with fail
  refine HN.out.mono ?_
  rintro e w1 ⟨rfl, hb1⟩
  have HRd := hid8 (dv_read (HD.out.below hb1) (nm8 first) (nm8_max first (by omega) (by omega)))
  rw [ho] at HRd
  have hz1 := hb1.size
  have HB1 := hid8 hb1
  clear HN hb1
  go_wp2_with fail
  refine HRd.out.mono ?_
  rintro e w2 ⟨u, rfl, -, hb2⟩
  have HB2 := hid8 (HB1.out.trans (hb2.mono hz1))
  clear HRd hb2 HB1
  simp only [if_true]
  go_wp2
  try simp only [Exit.inBlock, Exit.then]
  refine bodyPost_ret (results_tmp3 rfl _ _ _) rfl ?_
  exact ⟨24, none, S, .off h0 h1 ho, Fr.below HB2.out, .inl ⟨rfl, rfl, HD.out.up HB2.out⟩⟩
end
end Go.Proofs.YtgifcgniphncdaaGreatDoor

/-
  Open: the segments are read, one behind the other; another one is begun.
-/
set_option linter.unusedVariables false
set_option linter.unusedSimpArgs false
namespace Go.Proofs.YtgifcgniphncdaaGreatDoor
open Go.RowKit Go.Maps

section
variable {w : World} {B : Nat} {D : Nat → Prop} {d : Nat} {S : Dsk}
set_option maxRecDepth 100000 in
set_option maxHeartbeats 16000000 in
theorem open_on (hD : DV w D d S) (hDB : ∀ j, D j → B ≤ j) (hB : B ≤ w.heap.size) (hg : Gl B w) (first : Int) (h0 : 1 ≤ first) (h1 : first ≤ 1073741824) (ho : S.o = false) :
    Calls Tryz.prog 17 #[.pointer (some ⟨d, 0, none⟩), .int .i64 first] w fun e w' => OpL w w' B D d S first e := by
  have d1 : decide (first < 1) = false := by simp; omega
  have d2 : decide (1073741824 < first) = false := by simp; omega
  have HN := hid8 (name_any hg first (by omega) (by omega))
  have hinv := hD.inv
  have HLT := hid8 hD.lt
  have HD := hid8 hD
  have HG := hid8 hg
  have HDB := hid8 hDB
  have HSL := hid8 (segs_len hinv)
  have HSM : Hid (∀ n ∈ segs S.P, 1 ≤ n ∧ nm8 n ∈ Land.dnames S.P.now ∧ n < 1000000000000000000) := hid8 (fun n hn => segs_mem hinv hn)
  have HRN : Hid (∀ n ∈ segs S.P, (Land.pread S.P (nm8 n)).1 = 0 ∧ Byt (Land.pread S.P (nm8 n)).2 ∧ (Land.pread S.P (nm8 n)).2.length ≤ 262144) := hid8 (fun n hn => read_name hinv (segs_mem hinv hn).2.1)
  have hcode := pread_code S.P (nm8 first)
  have hpn := hinv.lo
  clear hD hg hDB
  go_enter Tryz.func17, Tryz.ntmps17
  go_wp2_with fail
  refine HN.out.mono ?_
  rintro e w1 ⟨rfl, hb1⟩
  have HRd := hid8 (dv_read (HD.out.below hb1) (nm8 first) (nm8_max first (by omega) (by omega)))
  rw [ho] at HRd
  simp only [Bool.false_eq_true, if_false] at HRd
  have hz1 := hb1.size
  have HB1 := hid8 hb1
  clear HN hb1
  go_wp2_with fail
  refine HRd.out.mono ?_
  rintro e w2 ⟨u, rfl, -, hb2⟩
  have hz2 := hb2.size
  have HB2 := hid8 (HB1.out.trans (hb2.mono hz1))
  have HSO := hid8 (segmentsOn_any (HD.out.below HB2.out) (HG.out.on (HB2.out.mono hB)) (by omega))
  clear HRd hb2 HB1
  generalize (Land.pread S.P (nm8 first)).1 = code at *
  have hcd : (code == 24) = false := by simpa using hcode
  have hcd2 : ¬ code = 24 := hcode
  clear hcode
  go_wp2_with fail
  refine HSO.out.mono ?_
  rintro e w3 ⟨v3, rfl, hr3, hb3⟩
  obtain ⟨at3, ct3, rfl, hsq, hlo3⟩ := hr3.seq
  have hz3 := hb3.size
  have HB3 := hid8 (HB2.out.trans (hb3.mono (by omega)))
  have HGP := hid8 (hasGap_any first hsq (fun n hn => by have := HSM.out n hn; omega))
  rw [← gap_eq] at HGP
  have HSQ := hid8 hsq
  have hsl := HSL.out
  clear HSO hb3 HB2 hr3 hsq hlo3
  go_wp2_with fail
  refine HGP.out.mono ?_
  rintro e w4 ⟨rfl, hb4⟩
  have hz4 := hb4.size
  have HB4 := hid8 (HB3.out.trans (hb4.mono (by omega)))
  have HSQ4 := hid8 (HSQ.out.keep hb4)
  clear HGP hb4 HB3 HSQ
  generalize hns : (segs S.P).length = nl at *
  cases hgap : gap S.P first with
  | true =>
    go_wp2
    go_ret3
    exact ⟨81, none, S, .gap h0 h1 ho hgap, Fr.below HB4.out, .inl ⟨rfl, rfl, HD.out.up HB4.out⟩⟩
  | false =>
    have HGF := hid8 hgap
    have hzl : w.heap.size ≤ w4.heap.size := HB4.out.size
    have m5 : Rm (w4.alloc (.cells #[.bool false, .int .u64 0, .slice none 0 0] 97)) w4.heap.size (.slice none 0 0) ⟨false, 0, []⟩ := heap_alloc_new w4 _
    have b5 : Below w4.heap.size w4 (w4.alloc (.cells #[.bool false, .int .u64 0, .slice none 0 0] 97)) := (Below.refl _ _).alloc (Nat.le_refl _) _
    have HM5 := hid8 m5
    have HB5 := hid8 b5
    have hgf : first ≤ first := Int.le_refl _
    have hup := upTo_le (segs S.P) first
    clear m5 b5 hgap
    go_wp2
    go_loopw [11, 12, 13] (fun i _ _ wr => ∃ (n : Int) (R : Rdr) (v : Value), i = .int .i64 n ∧ first ≤ n ∧ (n - first).toNat + upTo (segs S.P) n ≤ 64 ∧ R.next < 18446744073709551616 ∧ R.cs.length ≤ 10000 * (n - first).toNat ∧ Hid (∀ x, Rds S.P n R x → Rds S.P first ⟨false, 0, []⟩ x) ∧ Rm wr w4.heap.size v R ∧ CRow wr (fun j => w4.heap.size < j ∧ j < wr.heap.size) v R.cs ∧ Below w4.heap.size w4 wr) (fun i _ _ _ => upTo (segs S.P) (intOf i))
    case atStart => exact ⟨first, _, _, rfl, hgf, by omega, by decide, by simp, hid8 (fun x h => h), HM5.out, CRow.nil _ _, HB5.out⟩
    case round =>
      clear HM5 HB5
      obtain ⟨n, R, v, rfl, hfn, hcnt, hnx, hcs, hrd, hm, hc, hb⟩ := hrel
      have hsz := hb.size
      have hrl := hm.lt
      have hn64 : (n - first).toNat ≤ 64 := by omega
      have HSr := hid8 (HSQ4.out.keep hb)
      have HCn := hid8 (sContains_any HSr.out n)
      have HBw := hid8 (HB4.out.trans (hb.mono (by omega)))
      have HM := hid8 hm
      have HC := hid8 hc
      have HBr := hid8 hb
      obtain ⟨wR, hwR⟩ : ∃ x, x = wr := ⟨_, rfl⟩
      subst hwR
      clear hm hc hb
      by_cases hmem : n ∈ segs S.P
      · have hct : (segs S.P).contains n = true := by simpa using hmem
        rw [hct] at HCn
        have HNn := hid8 (name_any (HG.out.on (HBw.out.mono hB)) n (by omega) (by omega))
        obtain ⟨p1, p2, p3⟩ := HRN.out n hmem
        have hupn := upTo_next _ n hmem
        have hw : IntKind.i64.wrap (n + 1) = n + 1 := by rw [IntKind.wrap_i64]; omega
        have HMEM := hid8 hmem
        clear hct hmem
        go_wp2_with fail
        refine HCn.out.mono ?_
        rintro e wx ⟨rfl, rfl⟩
        clear HCn
        go_wp2_with fail
        refine HNn.out.mono ?_
        rintro e w6 ⟨rfl, hb6⟩
        have hz6 := hb6.size
        have HB6 := hid8 (HBw.out.trans (hb6.mono (by omega)))
        have HRd := hid8 (dv_read (HD.out.below HB6.out) (nm8 n) (nm8_max n (by omega) (by omega)))
        rw [ho] at HRd
        simp only [Bool.false_eq_true, if_false] at HRd
        rw [p1] at HRd
        have HM6 := hid8 (HM.out.below hb6)
        have HC6 := hid8 (HC.out.below hb6)
        have HBr6 := hid8 (HBr.out.trans (hb6.mono hsz))
        clear HNn hb6 HM HC HBr HBw
        go_wp2_with fail
        refine HRd.out.mono ?_
        rintro e w7 ⟨u, rfl, hO7, hb7⟩
        have hz7 := hb7.size
        obtain ⟨a7, c7, rfl, sl7, lo7⟩ := hO7.sl p2
        have HRR := hid8 (rread_any (A := fun j => w4.heap.size < j ∧ j < wx.heap.size) sl7 p3 (HM6.out.below hb7) hnx (HC6.out.below hb7) (by omega) (fun e => by have := e.1; omega) (fun j hj => by have := hj.2; omega) n (by omega) (by omega) (fun _ b off e k => by have := lo7 b off e; omega))
        have HB7 := hid8 (HB6.out.trans (hb7.mono (by omega)))
        have HBr7 := hid8 (HBr6.out.trans (hb7.mono (by omega)))
        clear HRd hb7 HM6 HC6 HBr6 HB6 hO7 sl7 lo7
        generalize hXL : (Land.pread S.P (nm8 n)).2.length = xl at *
        go_wp2_with fail
        refine HRR.out.mono ?_
        rintro e w8 ⟨hres, hf8⟩
        have hz8 := hf8.size
        have HBr8 := hid8 (HBr7.out.trans (hf8.to (n := w4.heap.size) (fun k hk e => by rcases e with e | e; have := e.1; omega; omega) (by omega)))
        have HB8 := hid8 (HB4.out.trans (HBr8.out.mono (by omega)))
        clear HRR hf8 HBr7 HB7
        rcases hres with ⟨R', v', hseg, rfl, hm8, hc8⟩ | ⟨hseg, rfl⟩
        · have hmo := segR_more p2 (by omega) hnx hseg
          have HM8 := hid8 hm8
          have HC8 := hid8 (hc8.mono (A' := fun j => w4.heap.size < j ∧ j < w8.heap.size) (fun j hj q => by
            rcases q with q | q
            · exact ⟨q.1, hj⟩
            · exact ⟨by have := q.1; omega, hj⟩))
          have HR8 : Hid (∀ x, Rds S.P (n + 1) R' x → Rds S.P first ⟨false, 0, []⟩ x) := hid8 (fun x h => hrd.out x (.go HMEM.out hseg h))
          clear hm8 hc8 hseg
          go_wp2
          go_roundw
          case rel => exact ⟨n + 1, R', v', rfl, by omega, by omega, hmo.1, by omega, HR8, HM8.out, HC8.out, HBr8.out⟩
          case measure =>
            show upTo (segs S.P) (intOf (.int .i64 _)) < upTo (segs S.P) n
            simp only [intOf]
            try rw [hw]
            omega
        · have HR8 : Hid (Rds S.P first ⟨false, 0, []⟩ none) := hid8 (hrd.out none (.bad HMEM.out hseg))
          clear hseg
          go_wp2
          go_ret3
          exact ⟨81, none, S, .bad h0 h1 ho HGF.out HR8.out, Fr.below HB8.out, .inl ⟨rfl, rfl, HD.out.up HB8.out⟩⟩
      · have hct : (segs S.P).contains n = false := by simpa using hmem
        rw [hct] at HCn
        have HRS : Hid (Rds S.P first ⟨false, 0, []⟩ (some (n, R))) := hid8 (hrd.out _ (.stop hmem))
        obtain ⟨t1, t2, t3⟩ := HM.out.cells
        have m6 : Lm (wR.alloc (.cells #[.pointer (some ⟨d, 0, none⟩), .int .i64 0, .int .u64 (R.next : Int), .slice none 0 0, .int .i64 0, .int .i64 0, .int .i64 0, .int .i64 0] 102)) wR.heap.size d (.slice none 0 0) ⟨0, R.next, [], 0, 0, 0, 0⟩ := heap_alloc_new wR _
        have b6 : Below wR.heap.size wR (wR.alloc (.cells #[.pointer (some ⟨d, 0, none⟩), .int .i64 0, .int .u64 (R.next : Int), .slice none 0 0, .int .i64 0, .int .i64 0, .int .i64 0, .int .i64 0] 102)) := (Below.refl _ _).alloc (Nat.le_refl _) _
        have z6 : (wR.alloc (.cells #[.pointer (some ⟨d, 0, none⟩), .int .i64 0, .int .u64 (R.next : Int), .slice none 0 0, .int .i64 0, .int .i64 0, .int .i64 0, .int .i64 0] 102)).heap.size = wR.heap.size + 1 := by simp
        have hzw := HBw.out.size
        have HB6 := hid8 (HBw.out.trans (b6.mono (by omega)))
        have hnD : ¬ D wR.heap.size := fun e => by have := HLT.out _ e; omega
        have HBG := hid8 (begin_any (HD.out.below HB6.out) m6 hnD (by omega) (by omega) HDB.out (HG.out.on (HB6.out.mono hB)) n (by omega) (by omega) hnx)
        have HM6 := hid8 (HM.out.below b6)
        have HC6 := hid8 (HC.out.below b6)
        clear hct hmem m6 HM HC HBr
        go_wp2_with fail
        refine HCn.out.mono ?_
        rintro e wx ⟨rfl, rfl⟩
        clear HCn
        go_wp2_with fail
        clear b6
        generalize hW6 : wx.alloc (.cells #[.pointer (some ⟨d, 0, none⟩), .int .i64 0, .int .u64 (R.next : Int), .slice none 0 0, .int .i64 0, .int .i64 0, .int .i64 0, .int .i64 0] 102) = w6 at *
        refine HBG.out.mono ?_
        rintro e w7 ⟨rfl, hd7, hl7, hf7⟩
        have hz7 := hf7.size
        have HF7 : Hid (Fr D w w7) := hid8 (((Fr.refl D w).trans (Fr.below HB6.out) (fun j e => .inl e)).trans hf7 (fun j e => by
          rcases e with e | e
          · exact .inl e
          · exact .inr (by omega)))
        have HD7 := hid8 hd7
        have HL7 := hid8 hl7
        have HMF := hid8 hf7
        clear HBG hd7 hl7 hf7
        generalize hRb : beg S n R.next = Rb at *
        have HRb := hid8 hRb
        clear hRb hW6
        obtain ⟨x, Sb⟩ := Rb
        by_cases hx : x = 0
        · subst hx
          have hnr : ∀ j, (D j ∨ j = wx.heap.size) → ¬ (w4.heap.size ≤ j ∧ j < wx.heap.size) := fun j e k => by
            rcases e with e | e
            · have := HLT.out j e; omega
            · omega
          have HM7 := hid8 (HM6.out.same (HMF.out.block w4.heap.size (by omega) (fun e => hnr _ e ⟨Nat.le_refl _, by omega⟩)))
          have HC7 := hid8 (HC6.out.same (fun j hj => HMF.out.block j (by have := hj.2; omega) (fun e => hnr j e ⟨by have := hj.1; omega, hj.2⟩)))
          obtain ⟨y1, y2, y3⟩ := HM7.out.cells
          have hr7 := HM7.out.lt
          obtain ⟨av, cv, rfl⟩ := HC7.out.len
          have HOP : Hid (OpenR S first 0 (some (Lg.new n R.next, R.cs)) Sb) := hid8 (by
            have := OpenR.ok h0 h1 ho HGF.out HRS.out (by rw [HRb.out])
            rwa [HRb.out] at this)
          have HGL : Hid (Gl B w7) := hid8 (HG.out.on (HF7.out.to (fun k hk e => by have := HDB.out k e; omega) hB))
          generalize hCL : R.cs.length = cl at *
          clear t1 t2 t3 hnr
          have PM7 : PM w7 B (fun j => Land.more D w6 w7 j ∨ j = wx.heap.size) wx.heap.size d Sb (Lg.new n R.next) 0 := by
            refine ⟨⟨Land.more D w6 w7, .slice none 0 0, HD7.out, HL7.out, Wt.nil _ _, fun j hj => ⟨.inl hj, fun e => ?_⟩⟩, .inr rfl, fun j hj => ?_, by omega, HGL.out, ⟨?_, ?_, fun _ => ?_, Nat.mod_lt _ (by decide), Nat.zero_le _, Nat.le_refl _, by omega, fun b hb => by cases hb⟩⟩
            · rcases hj with q | q
              · have := HLT.out j q; omega
              · have := q.1; omega
            · rcases hj with (q | q) | q
              · exact ⟨HDB.out j q, by have := HLT.out j q; omega⟩
              · exact ⟨by have := q.1; omega, q.2⟩
              · exact ⟨by omega, by omega⟩
            · show 1 ≤ n
              omega
            · show n ≤ 1099511627776
              omega
            · show n ≤ 1073741924 + Sb.P.n
              have := HD7.out.inv.lo
              simp only at this
              omega
          have HPM := hid8 PM7
          clear PM7
          go_wp2
          go_region
          go_wp2
          go_ret3
          refine ⟨0, _, Sb, HOP.out, HF7.out.drewN 1, .inr ⟨Lg.new n R.next, R.cs, wx.heap.size, _, (fun j => Land.more D w6 w7 j ∨ j = wx.heap.size), (fun j => w4.heap.size < j ∧ j < wx.heap.size), rfl, rfl, HPM.out.below (below_drew w7), HC7.out.below (below_drew w7), fun j hj => ?_, fun j hj => ⟨by have := hj.1; omega, by have := hj.2; show j < w7.heap.size; omega, fun k => ?_⟩⟩⟩
          · rcases hj with (q | q) | q
            · exact .inl q
            · exact .inr ⟨by have := q.1; omega, q.2⟩
            · exact .inr ⟨by omega, by show j < w7.heap.size; omega⟩
          · rcases k with (q | q) | q
            · have := HLT.out j q; have := hj.1; omega
            · have := q.1; have := hj.2; omega
            · have := hj.2; omega
        · have hxb : (x != 0) = true := by simpa using hx
          have HOP : Hid (OpenR S first x none Sb) := hid8 (by
            have := OpenR.err h0 h1 ho HGF.out HRS.out (by rw [HRb.out]; exact hx)
            rwa [HRb.out] at this)
          go_wp2
          go_ret3
          exact ⟨x, none, Sb, HOP.out, HF7.out, .inl ⟨rfl, rfl, HD7.out.mono (fun j hj => more_up (by omega) hj) (more_lt HLT.out HF7.out.size)⟩⟩
theorem walOpen_any (hD : DV w D d S) (hDB : ∀ j, D j → B ≤ j) (hB : B ≤ w.heap.size) (hg : Gl B w) (first : Int) :
    Calls Tryz.prog 17 #[.pointer (some ⟨d, 0, none⟩), .int .i64 first] w fun e w' => OpL w w' B D d S first e := by
  by_cases h : first < 1 ∨ 1073741824 < first
  · exact open_arg hD first h
  · cases ho : S.o with
    | true => exact open_off hD hB hg first (by omega) (by omega) ho
    | false => exact open_on hD hDB hB hg first (by omega) (by omega) ho
end
end Go.Proofs.YtgifcgniphncdaaGreatDoor

/-
  'shown': the document's examples.
-/
set_option linter.unusedVariables false
set_option linter.unusedSimpArgs false
namespace Go.Proofs.YtgifcgniphncdaaGreatDoor
open Go.RowKit Go.Maps

set_option maxRecDepth 100000 in
set_option maxHeartbeats 2000000 in
theorem one_any (t : Int) (w : World) : Calls Tryz.prog 34 #[.int .i64 t] w fun e w' => ∃ ao, e = .returned (.agg #[.int .i64 t, .slice ao 1 1]) ∧ Seq 3 Wr.cells w' ao 1 1 [w1x] ∧ Below w.heap.size w w' := by
  have z0 : (w.alloc (.cells #[.int .i64 0, .slice none 0 0] 37)).heap.size = w.heap.size + 1 := by simp
  have k0 := heap_alloc_new w (.cells #[.int .i64 0, .slice none 0 0] 37)
  have k1 := heap_alloc_new (w.alloc (.cells #[.int .i64 0, .slice none 0 0] 37)) (.cells #[.string ⟨#[97]⟩, .string ⟨#[120]⟩, .bool false] 85)
  rw [z0] at k1
  have W0 : Below w.heap.size w ((w.alloc (.cells #[.int .i64 t, .slice (some ⟨w.heap.size + 1, 0, none⟩) 1 1] 37)).alloc (.cells #[.string ⟨#[97]⟩, .string ⟨#[120]⟩, .bool false] 85)) := ((Below.refl _ _).alloc (Nat.le_refl _) _).alloc (by simp) _
  have za : (w.alloc (.cells #[.int .i64 t, .slice (some ⟨w.heap.size + 1, 0, none⟩) 1 1] 37)).heap.size = w.heap.size + 1 := by simp
  have ka : ((w.alloc (.cells #[.int .i64 t, .slice (some ⟨w.heap.size + 1, 0, none⟩) 1 1] 37)).alloc (.cells #[.string ⟨#[97]⟩, .string ⟨#[120]⟩, .bool false] 85)).heap[w.heap.size]? = some (.cells #[.int .i64 t, .slice (some ⟨w.heap.size + 1, 0, none⟩) 1 1] 37 (0, 0)) := (Below.heap_alloc _ _ _ (by omega)).trans (heap_alloc_new w _)
  have kb := heap_alloc_new (w.alloc (.cells #[.int .i64 t, .slice (some ⟨w.heap.size + 1, 0, none⟩) 1 1] 37)) (.cells #[.string ⟨#[97]⟩, .string ⟨#[120]⟩, .bool false] 85)
  rw [za] at kb
  have HQ : Hid (Seq 3 Wr.cells ((w.alloc (.cells #[.int .i64 t, .slice (some ⟨w.heap.size + 1, 0, none⟩) 1 1] 37)).alloc (.cells #[.string ⟨#[97]⟩, .string ⟨#[120]⟩, .bool false] 85)) (some ⟨w.heap.size + 1, 0, none⟩) 1 1 [w1x]) := hid8 (by
    refine ⟨rfl, Nat.le_refl _, by unfold maxLen; omega, fun _ => ⟨_, _, rfl, by simp, fun i x hi j u hj => ?_⟩⟩
    have hi0 : i = 0 := by
      have := (List.getElem?_eq_some_iff.1 hi).1
      simp at this
      omega
    subst hi0
    simp only [List.getElem?_cons_zero, Option.some.injEq] at hi
    subst hi
    rw [Go.Joins.cell_of_block kb, show 0 + 0 * 3 + j = j from by omega]
    match j, hj with
    | 0, hj => simpa [Wr.cells, w1x] using hj
    | 1, hj => simpa [Wr.cells, w1x] using hj
    | 2, hj => simpa [Wr.cells, w1x] using hj)
  have HB := hid8 W0
  have y0 : ((w.alloc (.cells #[.int .i64 t, .slice (some ⟨w.heap.size + 1, 0, none⟩) 1 1] 37)).alloc (.cells #[.string ⟨#[97]⟩, .string ⟨#[120]⟩, .bool false] 85)).cell? ⟨w.heap.size, 0, none⟩ = some (.int .i64 t) := by rw [Go.Joins.cell_of_block ka]; rfl
  have y1 : ((w.alloc (.cells #[.int .i64 t, .slice (some ⟨w.heap.size + 1, 0, none⟩) 1 1] 37)).alloc (.cells #[.string ⟨#[97]⟩, .string ⟨#[120]⟩, .bool false] 85)).cell? ⟨w.heap.size, 1, none⟩ = some (.slice (some ⟨w.heap.size + 1, 0, none⟩) 1 1) := by rw [Go.Joins.cell_of_block ka]; rfl
  clear W0 ka kb za
  go_enter Tryz.func34, Tryz.ntmps34
  go_wp2
  generalize (w.alloc (.cells #[.int .i64 t, .slice (some ⟨w.heap.size + 1, 0, none⟩) 1 1] 37)).alloc (.cells #[.string ⟨#[97]⟩, .string ⟨#[120]⟩, .bool false] 85) = W at *
  refine bodyPost_ret (v := .agg #[.int .i64 t, .slice (some ⟨w.heap.size + 1, 0, none⟩) 1 1]) (by simp [results, Tryz.results34, go_sem, y0, y1]) rfl ⟨_, rfl, HQ.out, HB.out⟩

/-! ### A log, wherever its blocks lie -/
def PX (w : World) (B l d : Nat) (S : Dsk) (L : Lg) (N : Nat) : Prop := ∃ A, PM w B A l d S L N
section
variable {w w' : World} {B : Nat} {l d : Nat} {S : Dsk} {L : Lg} {N : Nat}
theorem Gl.up {w : World} {B B' : Nat} (h : Gl B w) (hb : B ≤ B') : Gl B' w := fun w' hw => h w' (hw.mono hb)
theorem PM.bel {A : Nat → Prop} (h : PM w B A l d S L N) (F : Fr A w w') : Below B w w' := F.to (fun k hk e => by have := (h.lo k e).1; omega) h.bw
theorem PX.below (h : PX w B l d S L N) (hb : Below w.heap.size w w') : PX w' B l d S L N := by
  obtain ⟨A, h⟩ := h
  exact ⟨A, h.below hb⟩
theorem PX.bw (h : PX w B l d S L N) : B ≤ w.heap.size := by
  obtain ⟨A, h⟩ := h
  exact h.bw
theorem pxPut (h : PX w B l d S L N) (hN : N < 1000000) {ao : Option Addr} {len cap : Nat} {ws : List Wr} (hs : Seq 3 Wr.cells w ao len cap ws) (t : Int) :
    Calls Tryz.prog 33 #[.pointer (some ⟨l, 0, none⟩), .agg #[.int .i64 t, .slice ao len cap]] w fun e w' => e = .returned (.tuple #[.int .i64 (L.put ⟨t, ws⟩).1.1, .int .i64 (L.put ⟨t, ws⟩).1.2]) ∧ PX w' B l d S (L.put ⟨t, ws⟩).2 (N + 1) ∧ Below B w w' := by
  obtain ⟨A, h⟩ := h
  refine (walPut_any h hN hs t).mono ?_
  rintro e w' ⟨rfl, hp, hf⟩
  exact ⟨rfl, ⟨_, hp⟩, h.bel hf⟩
theorem pxFlush (h : PX w B l d S L N) : Calls Tryz.prog 35 #[.pointer (some ⟨l, 0, none⟩)] w fun e w' => e = .returned (.tuple #[.bool (L.flush S).1.1, .int .i64 (L.flush S).1.2]) ∧ PX w' B l d (L.flush S).2.2 (L.flush S).2.1 N ∧ Below B w w' := by
  obtain ⟨A, h⟩ := h
  refine (walFlush_any h).mono ?_
  rintro e w' ⟨rfl, hp, hf⟩
  exact ⟨rfl, ⟨_, hp⟩, h.bel hf⟩
theorem pxRotate (h : PX w B l d S L N) : Calls Tryz.prog 30 #[.pointer (some ⟨l, 0, none⟩)] w fun e w' => e = .returned (.tuple #[.int .i64 (L.turn S).1.1, .int .i64 (L.turn S).1.2]) ∧ PX w' B l d (L.turn S).2.2 (L.turn S).2.1 N ∧ Below B w w' := by
  obtain ⟨A, h⟩ := h
  refine (walRotate_any h).mono ?_
  rintro e w' ⟨rfl, hp, hf⟩
  exact ⟨rfl, ⟨_, hp⟩, h.bel hf⟩
theorem pxFlushed (h : PX w B l d S L N) : Calls Tryz.prog 21 #[.pointer (some ⟨l, 0, none⟩)] w fun e w' => e = .returned (.int .i64 (L.done : Int)) ∧ w' = w := by
  obtain ⟨A, h⟩ := h
  exact pmFlushed_any h
theorem pxOps (h : PX w B l d S L N) : Calls Tryz.prog 24 #[.pointer (some ⟨d, 0, none⟩)] w fun e w' => e = .returned (.int .i64 S.P.n) ∧ w' = w := by
  obtain ⟨A, ⟨⟨D, v, h1, h2, h3, h4⟩, h5, h6, h7, h8, h9⟩⟩ := h
  exact dv_ops h1
end
end Go.Proofs.YtgifcgniphncdaaGreatDoor

/-
  Slices of commits that are read; SameCommits, begins, pick. (Printed by gen_w28.py.)
-/
set_option linter.unusedVariables false
set_option linter.unusedSimpArgs false
namespace Go.Proofs.YtgifcgniphncdaaGreatDoor
open Go.RowKit Go.Maps

/-- A slice of commits that is read; Z: whose blocks matter. -/
def CS (w : World) (Z : Nat → Prop) (ao : Option Addr) (len cap : Nat) (cs : List Cm) : Prop :=
  cs.length = len ∧ len ≤ cap ∧ cap ≤ maxLen ∧
  (0 < len → ∃ b off, ao = some ⟨b, off, none⟩ ∧ b < w.heap.size ∧ Z b ∧ ∀ (i : Nat) (c : Cm), cs[i]? = some c → ∃ au lu cu, w.cell? ⟨b, off + i * 2, none⟩ = some (.int .i64 c.time) ∧ w.cell? ⟨b, off + i * 2 + 1, none⟩ = some (.slice au lu cu) ∧ Seq 3 Wr.cells w au lu cu c.ws ∧ (0 < lu → ∀ g o, au = some ⟨g, o, none⟩ → Z g))
section
variable {w w' : World} {Z : Nat → Prop} {ao : Option Addr} {len cap : Nat} {cs : List Cm}
theorem CS.keep (h : CS w Z ao len cap cs) (hs : w.heap.size ≤ w'.heap.size) (hZ : ∀ j, j < w.heap.size → Z j → w'.heap[j]? = w.heap[j]?) : CS w' Z ao len cap cs := by
  obtain ⟨h1, h2, h3, h4⟩ := h
  refine ⟨h1, h2, h3, fun hl => ?_⟩
  obtain ⟨b, off, e, hlt, hz, hc⟩ := h4 hl
  refine ⟨b, off, e, by omega, hz, fun i c hi => ?_⟩
  obtain ⟨au, lu, cu, q1, q2, q3, q4⟩ := hc i c hi
  refine ⟨au, lu, cu, (World.cell?_of_block (hZ b hlt hz)).trans q1, (World.cell?_of_block (hZ b hlt hz)).trans q2, ?_, q4⟩
  obtain ⟨g1, g2, g3, g5⟩ := q3
  refine ⟨g1, g2, g3, fun hl2 => ?_⟩
  obtain ⟨b2, o2, e2, hlt2, hc2⟩ := g5 hl2
  exact ⟨b2, o2, e2, by omega, fun i x hi j u hj => (World.cell?_of_block (hZ b2 hlt2 (q4 hl2 b2 o2 e2))).trans (hc2 i x hi j u hj)⟩
theorem CS.below (h : CS w Z ao len cap cs) (hb : Below w.heap.size w w') : CS w' Z ao len cap cs := h.keep hb.size (fun j hj _ => hb.block j hj)
theorem CS.mono {Z' : Nat → Prop} (h : CS w Z ao len cap cs) (hZ : ∀ j, Z j → Z' j) : CS w Z' ao len cap cs := by
  obtain ⟨h1, h2, h3, h4⟩ := h
  refine ⟨h1, h2, h3, fun hl => ?_⟩
  obtain ⟨b, off, e, hlt, hz, hc⟩ := h4 hl
  refine ⟨b, off, e, hlt, hZ b hz, fun i c hi => ?_⟩
  obtain ⟨au, lu, cu, q1, q2, q3, q4⟩ := hc i c hi
  exact ⟨au, lu, cu, q1, q2, q3, fun h g o e => hZ g (q4 h g o e)⟩
theorem seq_of_row {α : Type} {f : α → List Value} {k : Nat} {base : Nat} {e : TypeId} {ao : Option Addr} {ln cp : Nat} {l : List α} (h : w.ownsRow base e k (.slice ao ln cp) l.length (l.flatMap f)) (hf : ∀ x, (f x).length = k) (hk : 0 < k) : Seq k f w ao ln cp l := by
  have hat : ∀ (l : List α) (i : Nat) (x : α), l[i]? = some x → ∀ j u, (f x)[j]? = some u → (l.flatMap f)[i * k + j]? = some u := by
    intro l
    induction l with
    | nil => intro i x hi; cases hi
    | cons y r ih =>
      intro i x hi j u hj
      cases i with
      | zero =>
        simp only [List.getElem?_cons_zero, Option.some.injEq] at hi
        subst hi
        rw [List.flatMap_cons, Nat.zero_mul, Nat.zero_add, List.getElem?_append_left (List.getElem?_eq_some_iff.1 hj).1]
        exact hj
      | succ i =>
        rw [List.getElem?_cons_succ] at hi
        rw [List.flatMap_cons, List.getElem?_append_right (by rw [hf, Nat.succ_mul]; omega), hf, show (i + 1) * k + j - k = i * k + j from by rw [Nat.succ_mul]; omega]
        exact ih i x hi j u hj
  rcases h.2 with ⟨hv, h0⟩ | ⟨g, cap', cur, hv, _, hh, hn, hm, hs, ht⟩
  · simp only [Value.slice.injEq] at hv
    obtain ⟨rfl, rfl, rfl⟩ := hv
    exact ⟨h0, Nat.le_refl _, Nat.zero_le _, fun h => absurd h (by omega)⟩
  · simp only [Value.slice.injEq] at hv
    obtain ⟨rfl, rfl, rfl⟩ := hv
    refine ⟨rfl, hn, hm, fun _ => ⟨g, 0, rfl, (Array.getElem?_eq_some_iff.1 hh).1, fun i x hi j u hj => ?_⟩⟩
    have h1 := hat l i x hi j u hj
    have hj2 := (List.getElem?_eq_some_iff.1 hj).1
    rw [hf] at hj2
    have hil := (List.getElem?_eq_some_iff.1 hi).1
    have hlt : i * k + j < l.length * k := by
      have : (i + 1) * k ≤ l.length * k := Nat.mul_le_mul_right k hil
      rw [Nat.succ_mul] at this
      omega
    rw [Go.Joins.cell_of_block hh, ← Array.getElem?_toList, Nat.zero_add]
    have e1 : (cur.toList.take (l.length * k))[i * k + j]? = (l.flatMap f)[i * k + j]? := by rw [ht]
    rw [List.getElem?_take_of_lt hlt] at e1
    rw [e1]
    exact h1
/-- What Open tells is read so. -/
theorem CRow.read8 {A : Nat → Prop} {v : Value} (h : CRow w A v cs) : ∃ ao cap, v = .slice ao cs.length cap ∧ CS w A ao cs.length cap cs := by
  obtain ⟨ps, h0, h1, h2, h3⟩ := h
  have el : cs.length = ps.length := by rw [← h0]; simp
  obtain ⟨ao, ln, cp, rfl⟩ := erow_form h1
  have hsq := seq_of_row h1 (fun _ => rfl) (by decide)
  have eln : ln = cs.length := by rw [el]; exact hsq.1.symm
  subst eln
  refine ⟨ao, cp, rfl, rfl, hsq.2.1, hsq.2.2.1, fun hl => ?_⟩
  obtain ⟨b, off, rfl, hlt, hc⟩ := hsq.2.2.2 hl
  refine ⟨b, off, rfl, hlt, h2 b rfl, fun i c hi => ?_⟩
  have hil : i < ps.length := by rw [← el]; exact (List.getElem?_eq_some_iff.1 hi).1
  obtain ⟨p, hp⟩ : ∃ p, ps[i]? = some p := ⟨ps[i], List.getElem?_eq_getElem hil⟩
  have ec : p.1 = c := by
    rw [← h0, List.getElem?_map, hp] at hi
    simpa using hi
  subst ec
  obtain ⟨q1, q2⟩ := h3 p (List.mem_of_getElem? hp)
  obtain ⟨au, lu, cu, e⟩ := erow_form q1
  have c0 := hc i p hp 0 _ rfl
  have c1 := hc i p hp 1 _ rfl
  rw [e] at c1 q1 q2
  refine ⟨au, lu, cu, by simpa using c0, c1, seq_of_row q1 (fun _ => rfl) (by decide), fun _ g o e2 => q2 g (by rw [e2]; rfl)⟩
theorem CS.take (h : CS w Z ao len cap cs) (k : Nat) (hk : k ≤ len) : CS w Z ao k cap (cs.take k) := by
  obtain ⟨h1, h2, h3, h4⟩ := h
  refine ⟨by rw [List.length_take, h1]; omega, by omega, h3, fun hl => ?_⟩
  obtain ⟨b, off, e, hlt, hz, hc⟩ := h4 (by omega)
  refine ⟨b, off, e, hlt, hz, fun i c hi => hc i c ?_⟩
  have hik : i < k := by
    have := (List.getElem?_eq_some_iff.1 hi).1
    rw [List.length_take] at this
    omega
  rwa [List.getElem?_take_of_lt hik] at hi

/-! ### pick -/
def pkn (c : Int) (n : Int) : Int := if c < 0 then (-(c + 1)) % n else c % n
theorem reti8 {a b : Int} (h : a = b) : Ending.returned (.int .i64 a) = .returned (.int .i64 b) := by rw [h]
set_option maxRecDepth 100000 in
theorem pick8_any (c n : Int) (h0 : -9223372036854775808 ≤ c) (h1 : c ≤ 9223372036854775807) (hn : 0 < n) (hn2 : n ≤ 1000) (w : World) : Calls Tryz.prog 19 #[.int .i64 c, .int .i64 n] w fun e w' => e = .returned (.int .i64 (pkn c n)) ∧ w' = w := by
  have hn0 : ¬ n = 0 := by omega
  have hn1 : ¬ n = -1 := by omega
  unfold pkn
  by_cases hc : c < 0
  · have hd : decide (c < 0) = true := by simpa using hc
    rw [if_pos hc]
    have w1 : IntKind.i64.wrap (c + 1) = c + 1 := by rw [IntKind.wrap_i64]; omega
    have w2 : IntKind.i64.wrap (-(c + 1)) = -(c + 1) := by rw [IntKind.wrap_i64]; omega
    have w3 : IntKind.i64.wrap ((-(c + 1)).tmod n) = (-(c + 1)).tmod n := by
      have a := Int.tmod_nonneg (a := -(c + 1)) n (by omega)
      have b := Int.tmod_lt_of_pos (-(c + 1)) hn
      rw [IntKind.wrap_i64]; omega
    go_enter Tryz.func19, Tryz.ntmps19
    go_wp2
    go_ret
    refine ⟨reti8 ?_, rfl⟩
    rw [← Int.tmod_eq_emod_of_nonneg (by omega), Int.neg_tmod]
  · have hd : decide (c < 0) = false := by simpa using hc
    rw [if_neg hc]
    have w3 : IntKind.i64.wrap (c.tmod n) = c.tmod n := by
      have a := Int.tmod_nonneg (a := c) n (by omega)
      have b := Int.tmod_lt_of_pos c hn
      rw [IntKind.wrap_i64]; omega
    go_enter Tryz.func19, Tryz.ntmps19
    go_wp2
    go_ret
    exact ⟨rfl, rfl⟩

set_option maxRecDepth 100000 in
set_option maxHeartbeats 4000000 in
theorem sameCommits_any {bo : Option Addr} {lb cb : Nat} {Z' : Nat → Prop} (ha : CS w Z ao len cap cs) (hb : CS w Z' bo lb cb cs) :
    Calls Tryz.prog 26 #[.slice ao len cap, .slice bo lb cb] w fun e w' => e = .returned (.bool true) ∧ Below w.heap.size w w' := by
  obtain rfl : len = lb := ha.1.symm.trans hb.1
  have hlen : (len : Int) ≤ 9223372036854775807 := by have := ha.2.1; have := ha.2.2.1; unfold maxLen at this; omega
  have HA := hid8 ha
  have HBc := hid8 hb
  have HL : Hid (cs.length = len) := hid8 ha.1
  clear ha hb
  go_enter Tryz.func26, Tryz.ntmps26
  go_wp2
  go_loopw [5, 6] (fun i _ wr => ∃ k : Nat, k ≤ len ∧ i = .int .i64 (k : Int) ∧ Below w.heap.size w wr) (fun i _ _ => len - (intOf i).toNat)
  case atStart => exact ⟨0, by omega, rfl, Below.refl _ _⟩
  case round =>
    obtain ⟨k, hk, rfl, hbw⟩ := hrel
    obtain ⟨wR, hwR⟩ : ∃ x, x = wr := ⟨_, rfl⟩
    subst hwR
    have hsz := hbw.size
    by_cases hkl : k < len
    · have hkl2 : (k : Int) < (len : Int) := by omega
      obtain ⟨c, hc⟩ : ∃ c, cs[k]? = some c := ⟨cs[k]'(by have := HL.out; omega), List.getElem?_eq_getElem _⟩
      obtain ⟨b1, o1, rfl, hlt1, -, hc1⟩ := (HA.out.below hbw).2.2.2 (by omega)
      obtain ⟨b2, o2, rfl, hlt2, -, hc2⟩ := (HBc.out.below hbw).2.2.2 (by omega)
      obtain ⟨a1, l1, e1, x1, x2, q1, -⟩ := hc1 k c hc
      obtain ⟨a2, l2, e2, y1, y2, q2, -⟩ := hc2 k c hc
      have HQ1 := hid8 (q1.keep (below_drew wR))
      have HQ2 := hid8 (q2.keep (below_drew wR))
      have HBW := hid8 hbw
      clear hc1 hc2 q1 q2 hbw hc
      go_wp2
      refine wp_region_noPanic ?_
      refine wp_region_held_drew (S := (fun u : World => u.cell? ⟨b1, o1 + k * 2, none⟩ = some (.int .i64 c.time) ∧ u.cell? ⟨b1, o1 + k * 2 + 1, none⟩ = some (.slice a1 l1 e1) ∧ u.cell? ⟨b2, o2 + k * 2, none⟩ = some (.int .i64 c.time) ∧ u.cell? ⟨b2, o2 + k * 2 + 1, none⟩ = some (.slice a2 l2 e2))) (by kernel_rfl) (⟨x1, x2, y1, y2⟩) (fun hHeld => ?_)
      refine wpAnyH_take (i := 0) (oi := { dst := some 19, op := _, type := _, pos := _, after := _, guard := _ }) (v := ?_) rfl (by kernel_rfl) (by kernel_rfl) (by kernel_rfl) (fun _ _ _ h => h) (Or.inl ⟨by rfl, ?_⟩) (by assumption) ?_
      rotate_left 1
      · intro u hSw; obtain ⟨s1, s2, s3, s4⟩ := hSw; go_simp; try with_reducible rfl
      try simp only [Act.put, List.setIfInBounds_toArray, List.set_cons_zero, List.set_cons_succ]
      refine wpAnyH_take (i := 1) (oi := { dst := some 20, op := _, type := _, pos := _, after := _, guard := _ }) (v := ?_) rfl (by kernel_rfl) (by kernel_rfl) (by kernel_rfl) (fun _ _ _ h => h) (Or.inl ⟨by rfl, ?_⟩) (by assumption) ?_
      rotate_left 1
      · intro u hSw; obtain ⟨s1, s2, s3, s4⟩ := hSw; go_simp; try with_reducible rfl
      try simp only [Act.put, List.setIfInBounds_toArray, List.set_cons_zero, List.set_cons_succ]
      refine wpAnyH_take (i := 2) (oi := { dst := some 21, op := _, type := _, pos := _, after := _, guard := _ }) (v := ?_) rfl (by kernel_rfl) (by kernel_rfl) (by kernel_rfl) (fun _ _ _ h => h) (Or.inl ⟨by rfl, ?_⟩) (by assumption) ?_
      rotate_left 1
      · intro u hSw; obtain ⟨s1, s2, s3, s4⟩ := hSw; go_simp; try with_reducible rfl
      try simp only [Act.put, List.setIfInBounds_toArray, List.set_cons_zero, List.set_cons_succ]
      refine wpAnyH_take (i := 3) (oi := { dst := some 22, op := _, type := _, pos := _, after := _, guard := _ }) (v := ?_) rfl (by kernel_rfl) (by kernel_rfl) (by kernel_rfl) (fun _ _ _ h => h) (Or.inl ⟨by rfl, ?_⟩) (by assumption) ?_
      rotate_left 1
      · intro u hSw; obtain ⟨s1, s2, s3, s4⟩ := hSw; go_simp; try with_reducible rfl
      try simp only [Act.put, List.setIfInBounds_toArray, List.set_cons_zero, List.set_cons_succ]
      refine wpAnyH_take (i := 4) (oi := { dst := some 23, op := _, type := _, pos := _, after := _, guard := _ }) (v := ?_) rfl (by kernel_rfl) (by kernel_rfl) (by kernel_rfl) (fun _ _ _ h => h) (Or.inl ⟨by rfl, ?_⟩) (by assumption) ?_
      rotate_left 1
      · intro u hSw; obtain ⟨s1, s2, s3, s4⟩ := hSw; go_simp; try with_reducible rfl
      try simp only [Act.put, List.setIfInBounds_toArray, List.set_cons_zero, List.set_cons_succ]
      refine wpAnyH_take (i := 5) (oi := { dst := some 24, op := _, type := _, pos := _, after := _, guard := _ }) (v := ?_) rfl (by kernel_rfl) (by kernel_rfl) (by kernel_rfl) (fun _ _ _ h => h) (Or.inl ⟨by rfl, ?_⟩) (by assumption) ?_
      rotate_left 1
      · intro u hSw; obtain ⟨s1, s2, s3, s4⟩ := hSw; go_simp; try with_reducible rfl
      try simp only [Act.put, List.setIfInBounds_toArray, List.set_cons_zero, List.set_cons_succ]
      refine wpAnyH_take (i := 6) (oi := { dst := some 25, op := _, type := _, pos := _, after := _, guard := _ }) (v := ?_) rfl (by kernel_rfl) (by kernel_rfl) (by kernel_rfl) (fun _ _ _ h => h) (Or.inl ⟨by rfl, ?_⟩) (by assumption) ?_
      rotate_left 1
      · intro u hSw; obtain ⟨s1, s2, s3, s4⟩ := hSw; go_simp; try with_reducible rfl
      try simp only [Act.put, List.setIfInBounds_toArray, List.set_cons_zero, List.set_cons_succ]
      refine wpAnyH_take (i := 7) (oi := { dst := some 26, op := _, type := _, pos := _, after := _, guard := _ }) (v := ?_) rfl (by kernel_rfl) (by kernel_rfl) (by kernel_rfl) (fun _ _ _ h => h) (Or.inl ⟨by rfl, ?_⟩) (by assumption) ?_
      rotate_left 1
      · intro u hSw; obtain ⟨s1, s2, s3, s4⟩ := hSw; go_simp; try with_reducible rfl
      try simp only [Act.put, List.setIfInBounds_toArray, List.set_cons_zero, List.set_cons_succ]
      refine wpAnyH_ready (rs := [8]) (by kernel_rfl) (by simp) ?_
      refine AllReadyH.cons (o := { dst := some 27, op := _, type := _, pos := _, after := _, guard := _ }) rfl (fun K hK => ?_) AllReadyH.nil
      go_simp
      refine (sameCommit_any c.time HQ1.out HQ2.out).mono ?_
      rintro e w2 ⟨rfl, hb2⟩
      have HB2 := hid8 hb2
      clear hb2
      go_wp2_with fail
      refine hK.out _ _ (⟨(HB2.out.cell (p := ⟨b1, o1 + k * 2, none⟩) hlt1).trans x1, (HB2.out.cell (p := ⟨b1, o1 + k * 2 + 1, none⟩) hlt1).trans x2, (HB2.out.cell (p := ⟨b2, o2 + k * 2, none⟩) hlt2).trans y1, (HB2.out.cell (p := ⟨b2, o2 + k * 2 + 1, none⟩) hlt2).trans y2⟩) (fun hHeld => ?_)
      clear hK K
      try simp only [Act.put, List.setIfInBounds_toArray, List.set_cons_zero, List.set_cons_succ]
      refine wpAnyH_take (i := 9) (oi := { dst := some 6, op := _, type := _, pos := _, after := _, guard := _ }) (v := ?_) rfl (by kernel_rfl) (by kernel_rfl) (by kernel_rfl) (fun _ _ _ h => h) (Or.inl ⟨by rfl, ?_⟩) (by assumption) ?_
      rotate_left 1
      · intro u hSw; obtain ⟨s1, s2, s3, s4⟩ := hSw; go_simp; try with_reducible rfl
      try simp only [Act.put, List.setIfInBounds_toArray, List.set_cons_zero, List.set_cons_succ]
      refine wpAnyH_done (by kernel_rfl) ?_ _
      refine NoPanic.normal ?_
      have HB3 : Hid (Below w.heap.size w w2) := hid8 (HBW.out.trans ((below_drew wR).trans (HB2.out.mono (Nat.le_refl _)) |>.mono hsz))
      clear HB2 HBW
      go_wp2
      go_roundw
      case rel => exact ⟨k + 1, by omega, by go_num, HB3.out⟩
      case measure => simp [intOf]; omega
    · obtain rfl : k = len := by omega
      have HB3 := hid8 hbw
      clear hbw
      go_wp2
      go_ret
      exact ⟨rfl, HB3.out⟩

theorem CS.upto {w : World} {Z : Nat → Prop} {ao : Option Addr} {len cap : Nat} {cs : List Cm} (h : CS w Z ao len cap cs) (k : Nat) (hk : k ≤ len) :
    ∃ ao', (∀ u : World, (Instr.slice 45 (.slice ao len cap) none (some (.int .i64 (k : Int))) none).run Tryz.prog u = .ok (.slice ao' k cap) u) ∧ CS w Z ao' k cap (cs.take k) := by
  have hut := Tryz.underlying45
  have ht' : Tryz.prog.underlying 45 = some (.slice (Tryz.prog.elem 45)) := by simp [Program.elem, hut]
  have he : Tryz.prog.elem 45 = 37 := by simp [Program.elem, hut]
  have hsz : ∀ u : World, (Go.sizeOf 37).run Tryz.prog u = .ok 2 u := fun u => by kernel_rfl
  have hc := h.2.1
  refine ⟨ao, fun u => ?_, h.take k hk⟩
  rw [run_slice_h u 45 ao len cap ht' .i64 k (by omega) (by omega), he, hsz]
  simp only [Result.andThen, Int.toNat_natCast]
  cases ao with
  | none => simp [Go.sliced]
  | some a => simp [Go.sliced, Addr.add]
set_option maxRecDepth 100000 in
set_option maxHeartbeats 2000000 in
theorem begins8_any {w : World} {ao bo : Option Addr} {la ca lb cb : Nat} {Z Z' : Nat → Prop} {xs ys : List Cm} (ha : CS w Z ao la ca xs) (hb : CS w Z' bo lb cb ys) (hp : xs = ys.take la) (hl : la ≤ lb) :
    Calls Tryz.prog 23 #[.slice ao la ca, .slice bo lb cb] w fun e w' => e = .returned (.bool true) ∧ Below w.heap.size w w' := by
  obtain ⟨bo', hrun, hb'⟩ := hb.upto la hl
  rw [← hp] at hb'
  have HS := hid8 (sameCommits_any ha hb')
  have hll : (la : Int) ≤ (lb : Int) := by omega
  have hla : (la : Int) ≤ 9223372036854775807 := by have := ha.2.1; have := ha.2.2.1; unfold maxLen at this; omega
  clear ha hb hb' hp
  go_enter Tryz.func23, Tryz.ntmps23
  go_wp2_with fail
  refine HS.out.mono ?_
  rintro e w' ⟨rfl, hb⟩
  have HB := hid8 hb
  clear HS hb
  go_wp2
  go_ret
  exact ⟨rfl, HB.out⟩
end
end Go.Proofs.YtgifcgniphncdaaGreatDoor

/-
  'plays': puts, flushes and rotations on a log; what was put.
-/
set_option linter.unusedVariables false
set_option linter.unusedSimpArgs false
namespace Go.Proofs.YtgifcgniphncdaaGreatDoor
open Go.RowKit Go.Maps

structure OpQ where
  kind : Int
  time : Int
  ws : List Wr
  au : Option Addr
  lu : Nat
  cu : Nat
  n : Int
  at_ : Int
  k1 : Int
  k2 : Int
  k3 : Int
  ro : Option Addr
  rl : Nat
  rc : Nat
def OpQ.cells (o : OpQ) : List Value := [.int .i64 o.kind, .int .i64 o.time, .slice o.au o.lu o.cu, .int .i64 o.n, .int .i64 o.at_, .int .i64 o.k1, .int .i64 o.k2, .int .i64 o.k3, .slice o.ro o.rl o.rc]
def OpQ.c (o : OpQ) : Cm := ⟨o.time, o.ws⟩
/-- A script that came in: all of it lies below B. -/
def Sq (w : World) (B : Nat) (ao : Option Addr) (len cap : Nat) (os : List OpQ) : Prop :=
  Seq 9 OpQ.cells w ao len cap os ∧ (∀ b off, ao = some ⟨b, off, none⟩ → 0 < len → b < B) ∧ ∀ o ∈ os, Seq 3 Wr.cells w o.au o.lu o.cu o.ws ∧ (∀ b off, o.au = some ⟨b, off, none⟩ → 0 < o.lu → b < B) ∧ -9223372036854775808 ≤ o.kind ∧ o.kind ≤ 9223372036854775807
theorem Sq.below {w w' : World} {B : Nat} {ao : Option Addr} {len cap : Nat} {os : List OpQ} (h : Sq w B ao len cap os) (hb : Below B w w') : Sq w' B ao len cap os := by
  obtain ⟨h1, h2, h3⟩ := h
  have keep : ∀ {α : Type} {k : Nat} {f : α → List Value} {a : Option Addr} {l c : Nat} {xs : List α}, Seq k f w a l c xs → (∀ b off, a = some ⟨b, off, none⟩ → 0 < l → b < B) → Seq k f w' a l c xs := fun hs hB => by
    obtain ⟨g1, g2, g3, g4⟩ := hs
    refine ⟨g1, g2, g3, fun hl => ?_⟩
    obtain ⟨b, off, e, hlt, hc⟩ := g4 hl
    exact ⟨b, off, e, Nat.lt_of_lt_of_le hlt hb.size, fun i x hi j u hj => (hb.cell (p := ⟨b, _, none⟩) (hB b off e hl)).trans (hc i x hi j u hj)⟩
  exact ⟨keep h1 h2, h2, fun o ho => ⟨keep (h3 o ho).1 (h3 o ho).2.1, (h3 o ho).2⟩⟩
/-- A row of commits that was put together here; Z: where their writes lie. -/
def PuR (w : World) (Z : Nat → Prop) (v : Value) (cs : List Cm) : Prop :=
  ∃ ps : List (Cm × Value), ps.map (·.1) = cs ∧ w.ownsRow 0 37 2 v ps.length (ps.flatMap cc) ∧ ∀ p ∈ ps, ∃ au lu cu, p.2 = .slice au lu cu ∧ Seq 3 Wr.cells w au lu cu p.1.ws ∧ (0 < lu → ∀ g o, au = some ⟨g, o, none⟩ → Z g)
section
variable {w w' : World} {Z : Nat → Prop} {v : Value} {cs : List Cm}
theorem seq_same {α : Type} {k : Nat} {f : α → List Value} {a : Option Addr} {l c : Nat} {xs : List α} (hs : Seq k f w a l c xs) (hz : w.heap.size ≤ w'.heap.size) (hB : 0 < l → ∀ b off, a = some ⟨b, off, none⟩ → w'.heap[b]? = w.heap[b]?) : Seq k f w' a l c xs := by
  obtain ⟨g1, g2, g3, g4⟩ := hs
  refine ⟨g1, g2, g3, fun hl => ?_⟩
  obtain ⟨b, off, e, hlt, hc⟩ := g4 hl
  exact ⟨b, off, e, by omega, fun i x hi j u hj => (World.cell?_of_block (hB hl b off e)).trans (hc i x hi j u hj)⟩
theorem PuR.keep (h : PuR w Z v cs) (hz : w.heap.size ≤ w'.heap.size) (hv : ∀ g, v.ownBlock = some g → w'.heap[g]? = w.heap[g]?) (hZ : ∀ j, Z j → w'.heap[j]? = w.heap[j]?) : PuR w' Z v cs := by
  obtain ⟨ps, h0, h1, h3⟩ := h
  refine ⟨ps, h0, row_on h1 hv, fun p hp => ?_⟩
  obtain ⟨au, lu, cu, e, q1, q2⟩ := h3 p hp
  exact ⟨au, lu, cu, e, seq_same q1 hz (fun hl b off e2 => hZ b (q2 hl b off e2)), q2⟩
theorem PuR.lt (h : PuR w Z v cs) : ∀ g, v.ownBlock = some g → g < w.heap.size := by
  obtain ⟨ps, h0, h1, h3⟩ := h
  exact fun g e => (World.ownsRow.lt h1 g e).2
theorem PuR.nil (w : World) (Z : Nat → Prop) : PuR w Z (.slice none 0 0) [] := ⟨[], rfl, World.ownsRow_nil _ _ _ _, fun p hp => by cases hp⟩
/-- It is read as a slice of commits. -/
theorem PuR.cs8 (h : PuR w Z v cs) : ∃ ao cap, v = .slice ao cs.length cap ∧ CS w (fun j => v.ownBlock = some j ∨ Z j) ao cs.length cap cs := by
  obtain ⟨ps, h0, h1, h3⟩ := h
  have el : cs.length = ps.length := by rw [← h0]; simp
  obtain ⟨ao, ln, cp, rfl⟩ := erow_form h1
  have hsq := seq_of_row h1 (fun _ => rfl) (by decide)
  have eln : ln = cs.length := by rw [el]; exact hsq.1.symm
  subst eln
  refine ⟨ao, cp, rfl, rfl, hsq.2.1, hsq.2.2.1, fun hl => ?_⟩
  obtain ⟨b, off, rfl, hlt, hc⟩ := hsq.2.2.2 hl
  refine ⟨b, off, rfl, hlt, .inl rfl, fun i c hi => ?_⟩
  have hil : i < ps.length := by rw [← el]; exact (List.getElem?_eq_some_iff.1 hi).1
  obtain ⟨p, hp⟩ : ∃ p, ps[i]? = some p := ⟨ps[i], List.getElem?_eq_getElem hil⟩
  have ec : p.1 = c := by
    rw [← h0, List.getElem?_map, hp] at hi
    simpa using hi
  subst ec
  obtain ⟨au, lu, cu, e, q1, q2⟩ := h3 p (List.mem_of_getElem? hp)
  have c0 := hc i p hp 0 _ rfl
  have c1 := hc i p hp 1 _ rfl
  rw [e] at c1
  exact ⟨au, lu, cu, by simpa using c0, c1, q1, fun hl g o e2 => .inr (q2 hl g o e2)⟩
/-- One more. -/
theorem PuR.push {v' : Value} {c : Cm} {au : Option Addr} {lu cu : Nat} {ps : List (Cm × Value)} (h0 : ps.map (·.1) = cs) (h3 : ∀ p ∈ ps, ∃ au lu cu, p.2 = .slice au lu cu ∧ Seq 3 Wr.cells w au lu cu p.1.ws ∧ (0 < lu → ∀ g o, au = some ⟨g, o, none⟩ → Z g))
    (hs : Seq 3 Wr.cells w au lu cu c.ws) (hz : 0 < lu → ∀ g o, au = some ⟨g, o, none⟩ → Z g) (hsz : w.heap.size ≤ w'.heap.size) (hZ : ∀ j, Z j → w'.heap[j]? = w.heap[j]?) (hr : w'.ownsRow 0 37 2 v' (ps.length + 1) (ps.flatMap cc ++ [.int .i64 c.time, .slice au lu cu])) : PuR w' Z v' (cs ++ [c]) := by
  refine ⟨ps ++ [(c, .slice au lu cu)], by simp [h0], ?_, fun p hp => ?_⟩
  · rw [List.length_append, List.length_singleton, List.flatMap_append]
    simpa using hr
  · rcases List.mem_append.1 hp with hp | hp
    · obtain ⟨a, l, e, q0, q1, q2⟩ := h3 p hp
      exact ⟨a, l, e, q0, seq_same q1 hsz (fun hl b off e2 => hZ b (q2 hl b off e2)), q2⟩
    · simp only [List.mem_singleton] at hp
      subst hp
      exact ⟨au, lu, cu, rfl, seq_same hs hsz (fun hl b off e2 => hZ b (hz hl b off e2)), hz⟩
end

/-! ### The same without memory -/
structure Py where
  L : Lg
  S : Dsk
  put : List Cm
  many : Nat
  turns : Nat
  N : Nat
def Py.step (p : Py) (o : OpQ) : Py :=
  if pkn o.kind 8 = 0 then
    if p.many < 18 then { p with L := (p.L.put o.c).2, put := if (p.L.put o.c).1.2 = 0 then p.put ++ [o.c] else p.put, many := p.many + 1, N := p.N + 1 } else p
  else if pkn o.kind 8 = 2 then
    if p.turns < 20 then { p with L := (p.L.turn p.S).2.1, S := (p.L.turn p.S).2.2, turns := p.turns + 1 } else p
  else if pkn o.kind 8 = 3 then p
  else { p with L := (p.L.flush p.S).2.1, S := (p.L.flush p.S).2.2 }
def Py.play (p : Py) (os : List OpQ) : Py := os.foldl Py.step p
theorem play_snoc8 (p : Py) (os : List OpQ) (k : Nat) (o : OpQ) (h : os[k]? = some o) : p.play (os.take (k + 1)) = (p.play (os.take k)).step o := by
  have hk := (List.getElem?_eq_some_iff.1 h).1
  have e : os[k] = o := (List.getElem?_eq_some_iff.1 h).2
  rw [← List.take_append_getElem hk, e]
  simp [Py.play]
theorem play_bounds (os : List OpQ) : ∀ (p : Py), (p.play os).N ≤ p.N + os.length ∧ (p.many ≤ 18 → (p.play os).many ≤ 18) ∧ (p.turns ≤ 20 → (p.play os).turns ≤ 20) ∧ (p.play os).put.length ≤ p.put.length + os.length := by
  induction os with
  | nil => intro p; simp [Py.play]
  | cons o r ih =>
    intro p
    have h := ih (p.step o)
    have e : p.play (o :: r) = (p.step o).play r := rfl
    rw [e]
    have hs : (p.step o).N ≤ p.N + 1 ∧ (p.many ≤ 18 → (p.step o).many ≤ 18) ∧ (p.turns ≤ 20 → (p.step o).turns ≤ 20) ∧ (p.step o).put.length ≤ p.put.length + 1 := by
      unfold Py.step
      split
      · split
        · refine ⟨Nat.le_refl _, fun _ => by show p.many + 1 ≤ 18; omega, fun h => h, ?_⟩
          show (if _ then _ else _ : List Cm).length ≤ _
          split
          · simp
          · omega
        · exact ⟨by omega, fun h => h, fun h => h, by omega⟩
      · split
        · split
          · exact ⟨by show p.N ≤ _; omega, fun h => h, fun _ => by show p.turns + 1 ≤ 20; omega, by show p.put.length ≤ _; omega⟩
          · exact ⟨by omega, fun h => h, fun h => h, by omega⟩
        · split
          · exact ⟨by omega, fun h => h, fun h => h, by omega⟩
          · exact ⟨by show p.N ≤ _; omega, fun h => h, fun h => h, by show p.put.length ≤ _; omega⟩
    simp only [List.length_cons]
    exact ⟨by omega, fun hm => h.2.1 (hs.2.1 hm), fun hm => h.2.2.1 (hs.2.2.1 hm), by omega⟩
theorem pkn_bd (c : Int) (n : Int) (hn : 0 < n) : 0 ≤ pkn c n ∧ pkn c n < n := by
  unfold pkn
  split
  · exact ⟨Int.emod_nonneg _ (by omega), Int.emod_lt_of_pos _ hn⟩
  · exact ⟨Int.emod_nonneg _ (by omega), Int.emod_lt_of_pos _ hn⟩

/-- The log, and what was put, in memory. -/
structure Pz (w : World) (B : Nat) (Z : Nat → Prop) (l d : Nat) (v : Value) (p : Py) : Prop where
  it : ∃ A, PM w B A l d p.S p.L p.N ∧ ∀ j, A j → v.ownBlock ≠ some j ∧ ¬ Z j
  pu : PuR w Z v p.put
  vb : ∀ g, v.ownBlock = some g → B ≤ g
  zl : ∀ j, Z j → j < w.heap.size
  vz : ∀ j, Z j → v.ownBlock ≠ some j
section
variable {w w' : World} {B : Nat} {Z : Nat → Prop} {l d : Nat} {v : Value} {p : Py}
/-- Behind a call of the log's. -/
theorem Pz.next {A : Nat → Prop} (h : Pz w B Z l d v p) (hA : ∀ j, A j → v.ownBlock ≠ some j ∧ ¬ Z j) {S' : Dsk} {L' : Lg} {N' : Nat} (hp : PM w' B (Land.more A w w') l d S' L' N') (hf : Fr A w w') {many turns : Nat} : Pz w' B Z l d v ⟨L', S', p.put, many, turns, N'⟩ := by
  have hlt := h.pu.lt
  have hz := hf.size
  refine ⟨⟨_, hp, fun j hj => ?_⟩, h.pu.keep hf.size (fun g e => hf.block g (hlt g e) (fun k => (hA g k).1 e)) (fun j hj => hf.block j (h.zl j hj) (fun k => (hA j k).2 hj)), h.vb, fun j hj => Nat.lt_of_lt_of_le (h.zl j hj) hz, h.vz⟩
  rcases hj with hj | hj
  · exact hA j hj
  · exact ⟨fun e => by have := hlt j e; have := hj.1; omega, fun e => by have := h.zl j e; have := hj.1; omega⟩
end
end Go.Proofs.YtgifcgniphncdaaGreatDoor

/-
  A log that is played on, and the power that may go: whatever a crash leaves is read again. No program in sight.
-/
set_option linter.unusedVariables false
set_option linter.unusedSimpArgs false
namespace Go.Proofs.YtgifcgniphncdaaGreatDoor
open Go.RowKit Go.Maps

/-! ### Operations that go well, or not -/
theorem go_good {S : Dsk} {F : Int × PD} (h : (S.go F).1 = 0) : offed S.P.n S.c S.o = false ∧ F.1 = 0 := by
  unfold Dsk.go ans at h
  cases e : offed S.P.n S.c S.o with
  | true => rw [e] at h; simp at h
  | false => rw [e] at h; exact ⟨rfl, by simpa using h⟩
theorem go_fail {S : Dsk} {F : Int × PD} (hF : F.1 ≠ 0 → F.2 = S.P) (h : (S.go F).1 ≠ 0) : (S.go F).2.P = S.P := by
  unfold Dsk.go ans at h
  unfold Dsk.go lef
  cases e : offed S.P.n S.c S.o with
  | true => rw [e] at h; simp
  | false => rw [e] at h; simp only [if_false, Bool.false_eq_true] at h ⊢; exact hF h
theorem app_fail (P : PD) (s : ByteArray) (xs : List Int) (h : (P.app s xs).1 ≠ 0) : (P.app s xs).2 = P := by
  unfold PD.app at h ⊢
  split
  · rfl
  · rename_i hn
    rw [if_neg hn] at h
    cases e : plook (kl s) P.now with
    | none =>
      rw [e] at h
      simp only at h ⊢
      split
      · rfl
      · rename_i h2; rw [if_neg h2] at h; exact absurd rfl h
    | some i =>
      rw [e] at h
      simp only at h ⊢
      split
      · rfl
      · rename_i h2; rw [if_neg h2] at h; exact absurd rfl h
theorem sync_fail (P : PD) (s : ByteArray) (h : (P.sync s).1 ≠ 0) : (P.sync s).2 = P := by
  unfold PD.sync at h ⊢
  split
  · rename_i h2; rw [if_pos h2] at h; exact absurd rfl h
  · rfl
theorem syncDir_fail (P : PD) (h : P.syncDir.1 ≠ 0) : P.syncDir.2 = P := by
  unfold PD.syncDir at h ⊢
  split
  · rfl
  · rename_i h2; rw [if_neg h2] at h; exact absurd rfl h
theorem Wl.room {P : PD} {f : Int} {Cs : List (List Int × Nat)} (h : Wl P f Cs) {i : Nat} {x : List Int × Nat} (hi : Cs[i]? = some x) {xs : List Int} (ha : (P.app (nm8 (f + i)) xs).1 = 0) : P.n < 65536 ∧ xs.length + x.1.length ≤ 262144 := by
  obtain ⟨ρ, hρ, hj⟩ := h.ex
  obtain ⟨h1, h2⟩ := hρ i x hi
  have hil := (List.getElem?_eq_some_iff.1 hi).1
  have ea := at_eq h2
  unfold PD.app at ha
  rw [if_neg (by rw [h.nm i (Nat.le_of_lt hil)]; decide), h1] at ha
  simp only [ea] at ha
  split at ha
  · cases ha
  · omega
theorem Wl.roomS {P : PD} {f : Int} {Cs : List (List Int × Nat)} (h : Wl P f Cs) {s : ByteArray} (ha : (P.sync s).1 = 0) : P.n < 65536 := by
  unfold PD.sync at ha
  have hh := h.inv.hi
  split at ha
  · rename_i hc
    unfold pcode at hc
    split at hc
    · cases hc
    · split at hc
      · cases hc
      · split at hc
        · cases hc
        · omega
  · rename_i hc; exact absurd ha hc
theorem Wl.roomM {P : PD} {f : Int} {Cs : List (List Int × Nat)} (h : Wl P f Cs) {xs : List Int} (ha : (P.app (nm8 (f + Cs.length)) xs).1 = 0) : P.n < 65536 ∧ xs.length ≤ 262144 := by
  have hno : plook (kl (nm8 (f + Cs.length))) P.now = none := by
    cases e : plook (kl (nm8 (f + Cs.length))) P.now with
    | none => rfl
    | some i =>
      obtain ⟨k, hk, e2⟩ := h.only _ _ e
      exact absurd e2 (h.ne (by omega))
  unfold PD.app at ha
  rw [if_neg (by rw [h.nm _ (Nat.le_refl _)]; decide), hno] at ha
  simp only [] at ha
  split at ha
  · cases ha
  · omega
theorem roomD {P : PD} (ha : P.syncDir.1 = 0) : P.n < 65536 := by
  unfold PD.syncDir at ha
  split at ha
  · cases ha
  · omega
/-- Behind a name that is new: without it. -/
theorem Wl.back {P P0 : PD} {f : Int} {C0 : List (List Int × Nat)} {y : List Int × Nat} {i : Nat} (h : Wl P f (C0 ++ [y])) (h0 : Wl P0 f C0) (hl : P.log = [.mk (nm8 (f + C0.length)) i]) (ho : P.old = P0.now) : Wl { P with log := [] } f C0 := by
  have hq : PD.now { P with log := [] } = P.old := rfl
  have hn : P.now = pput (kl (nm8 (f + C0.length))) i P.old := by unfold PD.now; rw [hl]; rfl
  have htx : Txt P.old := h.inv.old.txt
  obtain ⟨ρ, hρ, hj⟩ := h.ex
  refine ⟨⟨h.inv.lo, h.inv.hi, by have := h.inv.lo; simpa using this, h.inv.filn, fun k hk => ?_, (fun k c hc => by cases hc), h.inv.fil⟩, h.f1, h0.fm, ⟨ρ, fun k x hk => ?_, fun a b ha hb => hj a b (by simp; omega) (by simp; omega)⟩, fun s k hs => ?_, by rw [hq, ho]; exact h0.cnt⟩
  · have : k = 0 := by simpa using hk
    subst this
    exact h.inv.old
  · have hkl := (List.getElem?_eq_some_iff.1 hk).1
    obtain ⟨g1, g2⟩ := hρ k x (by rw [List.getElem?_append_left hkl]; exact hk)
    rw [hn, look_put_ne (h0.ne (by omega)) _ htx] at g1
    exact ⟨g1, g2⟩
  · rw [hq, ho] at hs
    exact h0.only s k hs

/-! ### What a crash leaves -/
/-- The segment that is written. -/
def live (n : Int) (q : Nat) (B : List (List Int)) (j : Nat) : List Int × Nat := (fras q (fstB n :: B), eo ((fstB n :: B).take j))
theorem live_all (n : Int) (q : Nat) (B : List (List Int)) : live n q B (B.length + 1) = (fras q (fstB n :: B), (fras q (fstB n :: B)).length) := by
  unfold live
  rw [List.take_of_length_le (by simp), fras_len]
/-- Whatever a crash leaves is read: a beginning of what was put, with all that was flushed. -/
def CrOk (P : PD) (pu : List Cm) (fl T M : Nat) : Prop := ∀ ke di te : Int, ∃ Cs R, Wl (Land.crashed P ke di te) 1 Cs ∧ Cs.length ≤ T ∧ Chain 1 ⟨false, 0, []⟩ Cs R ∧ (∃ r, pu = R.cs ++ r) ∧ fl ≤ R.cs.length ∧ R.next ≤ M ∧ ∀ x ∈ Cs, x.2 = x.1.length
theorem CrOk.mono {P : PD} {pu : List Cm} {fl T M T' M' : Nat} (h : CrOk P pu fl T M) (hT : T ≤ T') (hM : M ≤ M') : CrOk P pu fl T' M' := fun ke di te => by
  obtain ⟨Cs, R, h1, h2, h3, h4, h5, h6, h7⟩ := h ke di te
  exact ⟨Cs, R, h1, by omega, h3, h4, h5, by omega, h7⟩
theorem left_map {ke te : Int} {Cs : List (List Int × Nat)} (h : ∀ x ∈ Cs, x.2 = x.1.length) : Cs.map (fun x => (leftOf ke te x, (leftOf ke te x).length)) = Cs := by
  refine (List.map_congr_left (g := id) fun x hx => ?_).trans (List.map_id Cs)
  have e : x = (x.1, x.1.length) := by rw [← h x hx]
  rw [e, left_whole]
  rfl
section
variable {P Q : PD} {C0 : List (List Int × Nat)} {R : Rdr} {ke di te : Int}
theorem crash_old (hQ : Wl Q 1 C0) (hP : P.inv) (hfil : Q.fil = P.fil) (hd : P.cdir di = Q.now) (hs : ∀ x ∈ C0, x.2 = x.1.length) : Wl (Land.crashed P ke di te) 1 C0 := by
  have := hQ.crash hP hfil hd (ke := ke) (te := te)
  rwa [left_map hs] at this
theorem crash_now {B : List (List Int)} {ks : List Cm} {j M : Nat} (h : Wl P 1 (C0 ++ [live (1 + C0.length) R.next B j])) (hs : ∀ x ∈ C0, x.2 = x.1.length) (hc : Chain 1 ⟨false, 0, []⟩ C0 R) (ho : Okb B) (hk : coms B = some ks) (hM : R.next + B.length + 1 ≤ M) (hM2 : M < 18446744073709551616) (hj : j ≤ B.length + 1) (hd : P.cdir di = P.now) :
    ∃ Cs R', Wl (Land.crashed P ke di te) 1 Cs ∧ Cs.length = C0.length + 1 ∧ Chain 1 ⟨false, 0, []⟩ Cs R' ∧ (∃ r, R.cs ++ ks = R'.cs ++ r) ∧ R.cs.length + (kc B (j - 1)).length ≤ R'.cs.length ∧ R'.next ≤ M ∧ ∀ x ∈ Cs, x.2 = x.1.length := by
  have hw := h.crash h.inv rfl hd (ke := ke) (te := te)
  rw [List.map_append, left_map hs] at hw
  simp only [List.map_cons, List.map_nil] at hw
  have hbt := h.bytes (i := C0.length) (x := live (1 + C0.length) R.next B j) (by simp)
  obtain ⟨n, m, e, m1, m2, m3⟩ := left_tn (ke := ke) (te := te) hbt.1 hbt.2.1
  have m3' : n ≤ eo (fstB (1 + C0.length) :: B) := by
    rw [← fras_len R.next]
    exact m3
  obtain ⟨v, R', v1, v2, v3, v4, v5⟩ := segR_torn (n := 1 + (C0.length : Int)) (R := R) (by omega) ho hk (by omega) hj m1 m2 m3' e
  refine ⟨_, R', hw, by simp, chain_snoc hc v3, ?_, ?_, by omega, fun x hx => ?_⟩
  · obtain ⟨r, hr⟩ := (coms_take hk (v - 1)).2
    exact ⟨r, by rw [v4, hr, List.append_assoc]⟩
  · obtain ⟨r, hr⟩ := kc_mono hk (i := j - 1) (j := v - 1) (by omega)
    rw [v4, hr]
    simp
  · rcases List.mem_append.1 hx with hx | hx
    · exact hs x hx
    · simp only [List.mem_singleton] at hx
      rw [hx]
end
theorem cdir_nil {P : PD} (h : P.log = []) (di : Int) : P.cdir di = P.now := by
  unfold PD.cdir PD.now
  rw [h]
  simp
theorem cdir_one {P : PD} {c : PC} (h : P.log = [c]) (di : Int) : P.cdir di = P.now ∨ P.cdir di = P.old := by
  unfold PD.cdir PD.now
  rw [h]
  have := shr_le di [c].length
  simp only [List.length_singleton] at this ⊢
  rcases Nat.lt_or_ge 0 (shr di 1) with h1 | h1
  · left
    rw [show shr di 1 = 1 by omega]
    rfl
  · right
    rw [show shr di 1 = 0 by omega]
    rfl
/-- Another segment is begun, or not. -/
theorem beg_any {S : Dsk} {C0 : List (List Int × Nat)} {R : Rdr} {pu : List Cm} {fl M : Nat} (h : Wl S.P 1 C0) (hs : ∀ x ∈ C0, x.2 = x.1.length) (hl : S.P.log = []) (hc : Chain 1 ⟨false, 0, []⟩ C0 R) (hp : ∃ r, pu = R.cs ++ r) (hf : fl ≤ R.cs.length) (hM : R.next + 1 ≤ M) (hM2 : M < 18446744073709551616) (h64 : C0.length < 64) :
    ((beg S (1 + C0.length) R.next).1 ≠ 0 → CrOk (beg S (1 + C0.length) R.next).2.P pu fl (C0.length + 1) M) ∧
    ((beg S (1 + C0.length) R.next).1 = 0 → Wl (beg S (1 + C0.length) R.next).2.P 1 (C0 ++ [live (1 + C0.length) R.next [] 1]) ∧ (beg S (1 + C0.length) R.next).2.P.log = []) := by
  obtain ⟨n, hn⟩ : ∃ n : Int, n = 1 + C0.length := ⟨_, rfl⟩
  have e1 : live n R.next [] 1 = (fra R.next (fstB n), (fra R.next (fstB n)).length) := by
    have := live_all n R.next []
    rw [fras_one] at this
    exact this
  have e0 : live n R.next [] 0 = (fra R.next (fstB n), 0) := by
    unfold live
    rw [fras_one]
    rfl
  have hb : Byt (fra R.next (fstB n)) := fra_byt _ (fstB_byt _ (by omega))
  have hold : ∀ {P Q : PD} {di : Int}, Wl Q 1 C0 → P.inv → Q.fil = P.fil → P.cdir di = Q.now → ∀ ke te : Int, ∃ Cs R', Wl (Land.crashed P ke di te) 1 Cs ∧ Cs.length ≤ C0.length + 1 ∧ Chain 1 ⟨false, 0, []⟩ Cs R' ∧ (∃ r, pu = R'.cs ++ r) ∧ fl ≤ R'.cs.length ∧ R'.next ≤ M ∧ ∀ x ∈ Cs, x.2 = x.1.length := fun {P Q di} h1 h2 h3 h4 ke te =>
    ⟨C0, R, crash_old h1 h2 h3 h4 hs, by omega, hc, hp, hf, by omega, hs⟩
  have hnew : ∀ {P : PD} {i j : Nat}, j ≤ 1 → Wl P 1 (C0 ++ [live n R.next [] j]) → P.log = [.mk (nm8 n) i] → P.old = S.P.old → CrOk P pu fl (C0.length + 1) M := fun {P i j} hj hw hlg hod ke di te => by
    rcases cdir_one hlg di with hd | hd
    · rw [hn] at hw
      obtain ⟨Cs, R', a1, a2, a3, ⟨r1, a4⟩, a5, a6, a7⟩ := crash_now (ke := ke) (te := te) hw hs hc (B := []) (ks := []) (fun b hb => by cases hb) rfl (M := M) (by simpa using hM) hM2 (by simpa using hj) hd
      obtain ⟨r, hr⟩ := hp
      refine ⟨Cs, R', a1, by omega, a3, ⟨r1 ++ r, ?_⟩, by omega, a6, a7⟩
      rw [hr, ← List.append_assoc, ← a4, List.append_nil]
    · have hno : S.P.old = S.P.now := by unfold PD.now; rw [hl]; rfl
      rw [hn] at hlg
      have hbk := Wl.back (P0 := S.P) hw h hlg (hod.trans hno)
      exact hold hbk hw.inv rfl (by rw [hd]; rfl) ke te
  rw [← hn]
  unfold beg
  by_cases ha : (S.app (nm8 n) (fra R.next (fstB n))).1 = 0
  · have hg := go_good ha
    have hr := h.roomM (xs := fra R.next (fstB n)) (by rw [← hn]; exact hg.2)
    have hmd := dsk_made hg.1 h hb hr.1 hr.2 h64 (by omega)
    rw [← hn] at hmd
    obtain ⟨a1, a2, a3, a4, a5, a6, a7⟩ := hmd
    rw [hl, List.nil_append] at a4
    rw [if_neg (by rw [ha]; simp)]
    by_cases hb2 : ((S.app (nm8 n) (fra R.next (fstB n))).2.sync (nm8 n)).1 = 0
    · have hg2 := go_good hb2
      have hi : (C0 ++ [(fra R.next (fstB n), 0)])[C0.length]? = some (fra R.next (fstB n), 0) := by simp
      have hsy := dsk_sync hg2.1 a2 hi (a2.roomS hg2.2)
      rw [← hn, set_last] at hsy
      obtain ⟨b1, b2, b3, b4, b5, b6, b7⟩ := hsy
      rw [if_neg (by rw [hb2]; simp)]
      refine ⟨fun hc2 => ?_, fun hc2 => ?_⟩
      · have hf3 : ((S.app (nm8 n) (fra R.next (fstB n))).2.sync (nm8 n)).2.syncDir.2.P = ((S.app (nm8 n) (fra R.next (fstB n))).2.sync (nm8 n)).2.P := go_fail (syncDir_fail _) hc2
        rw [hf3]
        exact hnew (j := 1) (Nat.le_refl _) (by rw [e1]; exact b2) (b4.trans a4) (b5.trans a5)
      · have hg3 := go_good hc2
        obtain ⟨c1, c2, c3, c4, c5, c6⟩ := dsk_syncDir hg3.1 b2 (roomD hg3.2)
        exact ⟨by rw [e1]; exact c2, c4⟩
    · rw [if_pos hb2]
      refine ⟨fun hc2 => ?_, fun hc2 => absurd hc2 hb2⟩
      have hf2 := go_fail (sync_fail _ _) hb2
      have hf3 : ((S.app (nm8 n) (fra R.next (fstB n))).2.sync (nm8 n)).2.P = (S.app (nm8 n) (fra R.next (fstB n))).2.P := hf2
      rw [hf3]
      exact hnew (j := 0) (Nat.zero_le _) (by rw [e0]; exact a2) a4 a5
  · rw [if_pos ha]
    refine ⟨fun hc2 => ?_, fun hc2 => absurd hc2 ha⟩
    have hf3 : (S.app (nm8 n) (fra R.next (fstB n))).2.P = S.P := go_fail (app_fail _ _ _) ha
    rw [hf3]
    exact fun ke di te => hold h h.inv rfl (cdir_nil hl di) ke te
end Go.Proofs.YtgifcgniphncdaaGreatDoor

/-
  A log that is played on: what is kept. No program in sight.
-/
set_option linter.unusedVariables false
set_option linter.unusedSimpArgs false
namespace Go.Proofs.YtgifcgniphncdaaGreatDoor
open Go.RowKit Go.Maps

theorem coms_cmb : ∀ {wc : List Cm}, (∀ c ∈ wc, rightC c = true) → coms (wc.map cmb) = some wc
  | [], _ => rfl
  | c :: r, h => by
    have hc := rd_C (h c (List.mem_cons_self ..))
    have ih := coms_cmb (wc := r) fun x hx => h x (List.mem_cons_of_mem _ hx)
    simp only [List.map_cons, coms, ih, hc.1, hc.2]
    split
    · rename_i e
      have e2 := congrArg List.length e
      unfold cmb at e2
      simp at e2
    · simp
theorem okb_cmb {wc : List Cm} (h : ∀ c ∈ wc, rightC c = true) : Okb (wc.map cmb) := fun b hb => by
  obtain ⟨c, hc, rfl⟩ := List.mem_map.1 hb
  exact ⟨cmb_len (h c hc), cmb_byt (h c hc)⟩
theorem coms_add {a b : List (List Int)} {k l : List Cm} (h : coms a = some k) (h2 : coms b = some l) : coms (a ++ b) = some (k ++ l) := by
  rw [coms_append, h, h2]
  rfl
theorem kc_left {B B' : List (List Int)} {i : Nat} (h : i ≤ B.length) : kc (B ++ B') i = kc B i := by
  unfold kc
  rw [List.take_append_of_le_length h]
theorem live_app {n : Int} {q : Nat} {B B' : List (List Int)} {j : Nat} (hj : j ≤ B.length + 1) (hq : q + B.length + 1 < 18446744073709551616) : ((live n q B j).1 ++ fras (q + (B.length + 1)) B', (live n q B j).2) = live n q (B ++ B') j := by
  unfold live
  have e := fras_append q (fstB n :: B) B' (by omega)
  rw [List.length_cons, Nat.mod_eq_of_lt (by omega)] at e
  rw [← List.cons_append, e, List.take_append_of_le_length (by simpa using hj)]

/-- The log and its disk, all well; b0: as many commits as were told ahead. -/
structure LI (L : Lg) (P : PD) (b0 : Nat) (pu : List Cm) (T M : Nat) (C0 : List (List Int × Nat)) (R : Rdr) (B : List (List Int)) (ks wc : List Cm) (j : Nat) : Prop where
  wl : Wl P 1 (C0 ++ [live (1 + C0.length) R.next B j])
  syn : ∀ x ∈ C0, x.2 = x.1.length
  log : P.log = []
  ch : Chain 1 ⟨false, 0, []⟩ C0 R
  seg : L.seg = 1 + C0.length
  ok : Okb B
  cm : coms B = some ks
  wt : L.wait = wc.map cmb
  rt : ∀ c ∈ wc, rightC c = true
  all : pu = R.cs ++ ks ++ wc
  seq : L.seq = R.next + (B.length + 1)
  bd : L.seq + L.wait.length ≤ M
  st : L.step ≤ 3
  jb : j ≤ B.length + 1
  z : L.step = 0 → j = B.length + 1 ∧ L.grp = 0
  fl : b0 + L.done ≤ R.cs.length + (kc B (j - 1)).length
  gr : b0 + L.done + L.grp ≤ R.cs.length + ks.length
  t : C0.length + 1 ≤ T
def Ok8 (b0 T M : Nat) (L : Lg) (S : Dsk) (pu : List Cm) : Prop :=
  (L.over ≠ 0 ∧ CrOk S.P pu (b0 + L.done) T M) ∨ (L.over = 0 ∧ ∃ C0 R B ks wc j, LI L S.P b0 pu T M C0 R B ks wc j)
section
variable {b0 T M : Nat} {L : Lg} {S : Dsk} {pu : List Cm} {C0 : List (List Int × Nat)} {R : Rdr} {B : List (List Int)} {ks wc : List Cm} {j : Nat}
theorem LI.crash {P : PD} (h : LI L P b0 pu T M C0 R B ks wc j) (hM : M < 18446744073709551616) : CrOk P pu (b0 + L.done) T M := fun ke di te => by
  have h1 := h.seq
  have h2 := h.bd
  have h3 := h.t
  obtain ⟨Cs, R', a1, a2, a3, ⟨r, a4⟩, a5, a6, a7⟩ := crash_now (ke := ke) (te := te) h.wl h.syn h.ch h.ok h.cm (M := M) (by omega) hM h.jb (cdir_nil h.log di)
  have h4 := h.fl
  exact ⟨Cs, R', a1, by omega, a3, ⟨r ++ wc, by rw [h.all, a4, List.append_assoc]⟩, by omega, a6, a7⟩
theorem Ok8.crash (h : Ok8 b0 T M L S pu) (hM : M < 18446744073709551616) : CrOk S.P pu (b0 + L.done) T M := by
  rcases h with ⟨h1, h2⟩ | ⟨h1, C0, R, B, ks, wc, j, h2⟩
  · exact h2
  · exact h2.crash hM
theorem Ok8.mono (h : Ok8 b0 T M L S pu) {T' M' : Nat} (hT : T ≤ T') (hM : M ≤ M') : Ok8 b0 T' M' L S pu := by
  rcases h with ⟨h1, h2⟩ | ⟨h1, C0, R, B, ks, wc, j, h2⟩
  · exact .inl ⟨h1, h2.mono hT hM⟩
  · exact .inr ⟨h1, C0, R, B, ks, wc, j, { h2 with bd := Nat.le_trans h2.bd hM, t := Nat.le_trans h2.t hT }⟩
theorem Ok8.put (h : Ok8 b0 T M L S pu) (c : Cm) : Ok8 b0 T (M + 1) (L.put c).2 S (if (L.put c).1.2 = 0 then pu ++ [c] else pu) := by
  have hm := h.mono (Nat.le_refl T) (Nat.le_succ M)
  unfold Lg.put
  split
  · rename_i ho
    exact hm
  · rename_i ho
    have ho' : L.over = 0 := by simpa using ho
    split
    · rename_i hr
      rw [if_pos rfl]
      rcases h with ⟨h1, h2⟩ | ⟨h1, C0, R, B, ks, wc, j, h2⟩
      · exact absurd ho' h1
      · refine .inr ⟨h1, C0, R, B, ks, wc ++ [c], j, { h2 with wt := ?_, rt := ?_, all := ?_, bd := ?_ }⟩
        · simp [h2.wt]
        · intro x hx
          rcases List.mem_append.1 hx with hx | hx
          · exact h2.rt x hx
          · simp only [List.mem_singleton] at hx
            rw [hx]; exact hr
        · rw [h2.all]; simp
        · have := h2.bd
          show L.seq + (L.wait ++ [cmb c]).length ≤ M + 1
          rw [List.length_append, List.length_singleton]
          omega
    · show Ok8 _ _ _ _ _ (if (80 : Int) = 0 then _ else _)
      rw [if_neg (by decide)]
      exact hm
theorem Ok8.goOn (h : Ok8 b0 T M L S pu) (ho : L.over = 0) (hM : M + 1 < 18446744073709551616) : Ok8 b0 T (M + 1) (L.goOn S) (L.op S).2 pu := by
  rcases h with ⟨h1, h2⟩ | ⟨h1, C0, R, B, ks, wc, j, h2⟩
  · exact absurd ho h1
  · have hov := goOn_over L S
    have hin : (C0 ++ [live (1 + C0.length) R.next B j])[C0.length]? = some (live (1 + C0.length) R.next B j) := by simp
    have hsq := h2.seq
    have hbd := h2.bd
    have hjb := h2.jb
    have hfl := h2.fl
    have hgr := h2.gr
    by_cases hop : (L.op S).1 = 0
    · refine .inr ⟨by rw [hov, hop], ?_⟩
      unfold Lg.goOn
      rw [if_neg (by rw [hop]; simp)]
      by_cases s0 : L.step = 0
      · have eop : L.op S = S.app (nm8 L.seg) (fras L.seq L.wait) := by unfold Lg.op; rw [if_pos s0]
        rw [eop] at hop ⊢
        have hg := go_good hop
        have hby : Byt (fras L.seq L.wait) := by rw [h2.wt]; exact fras_byt _ _ (okb_cmb h2.rt)
        rw [h2.seg] at hop hg ⊢
        have hr := h2.wl.room hin hg.2
        obtain ⟨a1, a2, a3, a4, a5, a6, a7⟩ := dsk_app hg.1 h2.wl hin hby hr.1 hr.2
        rw [set_last, hsq, live_app hjb (by omega), ← hsq] at a2
        obtain ⟨z1, z2⟩ := h2.z s0
        have ek : kc (B ++ L.wait) (j - 1) = kc B (j - 1) := kc_left (by omega)
        refine ⟨C0, R, B ++ L.wait, ks ++ wc, [], j, ?_⟩
        rw [if_neg (by omega)]
        unfold Lg.mid
        rw [if_pos s0]
        have hwl : L.wait.length = wc.length := by rw [h2.wt, List.length_map]
        exact ⟨a2, h2.syn, by rw [a4]; exact h2.log, h2.ch, h2.seg, (fun b hb => by
          rcases List.mem_append.1 hb with hb | hb
          · exact h2.ok b hb
          · rw [h2.wt] at hb; exact okb_cmb h2.rt b hb), by rw [h2.wt]; exact coms_add h2.cm (coms_cmb h2.rt), rfl, (fun c hc => by cases hc), by rw [h2.all]; simp, by
            show (L.seq + L.wait.length) % 18446744073709551616 = _
            rw [Nat.mod_eq_of_lt (by omega), List.length_append]; omega, by
            show (L.seq + L.wait.length) % 18446744073709551616 + 0 ≤ _
            rw [Nat.mod_eq_of_lt (by omega)]; omega, by show L.step + 1 ≤ 3; omega, by rw [List.length_append]; omega, (fun e => by cases e), by rw [ek]; exact hfl, by
            show b0 + L.done + L.wait.length ≤ _
            rw [List.length_append]; omega, h2.t⟩
      · by_cases s2 : L.step = 2
        · have eop : L.op S = S.app (nm8 L.seg) (fra L.seq []) := by unfold Lg.op; rw [if_neg s0, if_pos s2]
          rw [eop] at hop ⊢
          have hg := go_good hop
          have hby : Byt (fra L.seq []) := fra_byt _ (fun x hx => by cases hx)
          rw [h2.seg] at hop hg ⊢
          have hr := h2.wl.room hin hg.2
          obtain ⟨a1, a2, a3, a4, a5, a6, a7⟩ := dsk_app hg.1 h2.wl hin hby hr.1 hr.2
          rw [← fras_one, set_last, hsq, live_app hjb (by omega), ← hsq, fras_one] at a2
          rw [← fras_one, fras_one] at a4
          have ek : kc (B ++ [[]]) (j - 1) = kc B (j - 1) := kc_left (by omega)
          refine ⟨C0, R, B ++ [[]], ks, wc, j, ?_⟩
          rw [if_neg (by omega)]
          unfold Lg.mid
          rw [if_neg s0, if_pos s2]
          exact ⟨a2, h2.syn, by rw [a4]; exact h2.log, h2.ch, h2.seg, (fun b hb => by
            rcases List.mem_append.1 hb with hb | hb
            · exact h2.ok b hb
            · simp only [List.mem_singleton] at hb
              rw [hb]; exact ⟨by simp, fun x hx => by cases hx⟩), by rw [coms_snoc h2.cm, if_pos rfl], h2.wt, h2.rt, h2.all, by
              show (L.seq + 1) % 18446744073709551616 = _
              rw [Nat.mod_eq_of_lt (by omega), List.length_append, List.length_singleton]; omega, by
              show (L.seq + 1) % 18446744073709551616 + L.wait.length ≤ _
              rw [Nat.mod_eq_of_lt (by omega)]; omega, by show L.step + 1 ≤ 3; omega, by rw [List.length_append]; omega, (fun e => by cases e), by rw [ek]; exact hfl, hgr, h2.t⟩
        · have eop : L.op S = S.sync (nm8 L.seg) := by unfold Lg.op; rw [if_neg s0, if_neg s2]
          rw [eop] at hop ⊢
          have hg := go_good hop
          rw [h2.seg] at hop hg ⊢
          obtain ⟨a1, a2, a3, a4, a5, a6, a7⟩ := dsk_sync hg.1 h2.wl hin (h2.wl.roomS hg.2)
          have el : ((live (1 + C0.length) R.next B j).1, (live (1 + C0.length) R.next B j).1.length) = live (1 + C0.length) R.next B (B.length + 1) := (live_all _ _ _).symm
          rw [set_last, el] at a2
          have ek : kc B (B.length + 1 - 1) = ks := kc_all h2.cm (by omega)
          have emid : L.mid = L := by unfold Lg.mid; rw [if_neg s0, if_neg s2]
          have hst := h2.st
          refine ⟨C0, R, B, ks, wc, B.length + 1, ?_⟩
          rw [emid]
          split
          · exact ⟨a2, h2.syn, by rw [a4]; exact h2.log, h2.ch, h2.seg, h2.ok, h2.cm, h2.wt, h2.rt, h2.all, h2.seq, by show L.seq + L.wait.length ≤ _; omega, Nat.zero_le _, Nat.le_refl _, (fun _ => ⟨rfl, rfl⟩), by rw [ek]; show b0 + (L.done + L.grp) ≤ _; omega, by show b0 + (L.done + L.grp) + 0 ≤ _; omega, h2.t⟩
          · exact ⟨a2, h2.syn, by rw [a4]; exact h2.log, h2.ch, h2.seg, h2.ok, h2.cm, h2.wt, h2.rt, h2.all, h2.seq, by show L.seq + L.wait.length ≤ _; omega, by show L.step + 1 ≤ 3; omega, Nat.le_refl _, (fun e => by cases e), by rw [ek]; show b0 + L.done ≤ _; omega, hgr, h2.t⟩
    · refine .inl ⟨by rw [hov]; exact hop, ?_⟩
      have hP : (L.op S).2.P = S.P := by
        unfold Lg.op at hop ⊢
        split at hop
        · rename_i s0
          rw [if_pos s0]
          exact go_fail (app_fail _ _ _) hop
        · rename_i s0
          rw [if_neg s0]
          split at hop
          · rename_i s2
            rw [if_pos s2]
            exact go_fail (app_fail _ _ _) hop
          · rename_i s2
            rw [if_neg s2]
            exact go_fail (sync_fail _ _) hop
      have hd : (L.goOn S).done = L.done := by
        unfold Lg.goOn Lg.mid
        rw [if_pos hop]
        split
        · rfl
        · split <;> rfl
      rw [hP, hd]
      exact (h2.crash (by omega)).mono (Nat.le_refl _) (Nat.le_succ _)
theorem Ok8.flush (h : Ok8 b0 T M L S pu) (hM : M + 1 < 18446744073709551616) : Ok8 b0 T (M + 1) (L.flush S).2.1 (L.flush S).2.2 pu := by
  unfold Lg.flush
  split
  · exact h.mono (Nat.le_refl _) (Nat.le_succ _)
  · rename_i ho
    split
    · exact h.mono (Nat.le_refl _) (Nat.le_succ _)
    · exact h.goOn (by simpa using ho) hM
theorem Ok8.fin : ∀ (k : Nat) {M : Nat} {L : Lg} {S : Dsk}, Ok8 b0 T M L S pu → M + k < 18446744073709551616 → Ok8 b0 T (M + k) (L.fin S k).1 (L.fin S k).2 pu
  | 0, M, L, S, h, _ => h
  | k + 1, M, L, S, h, hM => by
    unfold Lg.fin
    split
    · exact h.mono (Nat.le_refl _) (by omega)
    · rename_i ho
      have h1 := h.goOn (by rcases Decidable.em (L.over = 0) with e | e; exact e; exact absurd (.inl e) ho) (by omega)
      have h2 := Ok8.fin k h1 (by omega)
      rw [show M + 1 + k = M + (k + 1) by omega] at h2
      exact h2
theorem goOn_st (L : Lg) (S : Dsk) (h : L.step ≤ 3) : (L.goOn S).step ≤ 3 := by
  unfold Lg.goOn Lg.mid
  split
  · split
    · exact h
    · split <;> exact h
  · split
    · exact Nat.zero_le _
    · show L.step + 1 ≤ 3
      omega
theorem fin_zero : ∀ (k : Nat) (L : Lg) (S : Dsk), L.step ≤ 3 → L.left ≤ k → (L.fin S k).1.over ≠ 0 ∨ (L.fin S k).1.step = 0
  | 0, L, S, h3, h => by
    refine .inr ?_
    show L.step = 0
    unfold Lg.left at h
    split at h <;> omega
  | k + 1, L, S, h3, h => by
    by_cases ho : L.over ≠ 0 ∨ L.step = 0
    · rw [fin_stop ho]
      exact ho
    · have h1 : L.over = 0 := by rcases Decidable.em (L.over = 0) with e | e; exact e; exact absurd (.inl e) ho
      have h2 : L.step ≠ 0 := fun e => ho (.inr e)
      rw [fin_go h1 h2]
      by_cases hop : (L.op S).1 = 0
      · exact fin_zero k _ _ (goOn_st L S h3) (by have := goOn_left h2 h3 hop; omega)
      · rw [fin_stop (.inl (by rw [goOn_over]; exact hop))]
        exact .inl (by rw [goOn_over]; exact hop)
theorem Ok8.turn (h : Ok8 b0 T M L S pu) (hM : M + 4 < 18446744073709551616) (hT : T < 64) : Ok8 b0 (T + 1) (M + 4) (L.turn S).2.1 (L.turn S).2.2 pu := by
  have hf := Ok8.fin 3 h (by omega)
  have hseg := fin_seg 3 L S
  rcases h with ⟨h1, h2⟩ | ⟨h1, C1, R1, B1, ks1, wc1, j1, h2⟩
  · unfold Lg.turn
    rw [if_pos h1]
    exact .inl ⟨h1, h2.mono (Nat.le_succ _) (by omega)⟩
  · have hz := fin_zero 3 L S h2.st (by unfold Lg.left; split <;> omega)
    unfold Lg.turn
    rw [if_neg (by simpa using h1)]
    generalize hX : L.fin S 3 = X at *
    obtain ⟨L', S'⟩ := X
    simp only at hf hseg hz ⊢
    split
    · exact hf.mono (Nat.le_succ _) (by omega)
    · rename_i ho
      have ho' : L'.over = 0 := by simpa using ho
      have hz' : L'.step = 0 := hz.resolve_left ho
      rcases hf with ⟨g1, g2⟩ | ⟨g1, C0, R, B, ks, wc, j, g2⟩
      · exact absurd ho' g1
      · obtain ⟨z1, z2⟩ := g2.z hz'
        have hsq := g2.seq
        have hbd := g2.bd
        have hgr := g2.gr
        have ht := g2.t
        have hwl := g2.wl
        rw [z1, live_all] at hwl
        have hsr : SegR (fras R.next (fstB (1 + C0.length) :: B)) (1 + C0.length) R (some ⟨true, (R.next + (B.length + 1)) % 18446744073709551616, R.cs ++ ks⟩) := segR_clean (by omega) (by omega) (fun _ => rfl) g2.ok g2.cm
        rw [Nat.mod_eq_of_lt (by omega)] at hsr
        generalize hCn : C0 ++ [(fras R.next (fstB (1 + C0.length) :: B), (fras R.next (fstB (1 + C0.length) :: B)).length)] = Cn at *
        have hln : Cn.length = C0.length + 1 := by rw [← hCn]; simp
        have hch : Chain 1 ⟨false, 0, []⟩ Cn ⟨true, R.next + (B.length + 1), R.cs ++ ks⟩ := by rw [← hCn]; exact chain_snoc g2.ch hsr
        have hsy : ∀ x ∈ Cn, x.2 = x.1.length := fun x hx => by
          rw [← hCn] at hx
          rcases List.mem_append.1 hx with hx | hx
          · exact g2.syn x hx
          · simp only [List.mem_singleton] at hx
            rw [hx]
        have hb := beg_any (S := S') (R := ⟨true, R.next + (B.length + 1), R.cs ++ ks⟩) (pu := pu) (fl := b0 + L'.done) (M := M + 4) hwl hsy g2.log hch ⟨wc, g2.all⟩ (by simp only [List.length_append]; omega) (by simp only; omega) hM (by omega)
        have en : L.seg + 1 = 1 + (Cn.length : Int) := by
          have := g2.seg
          rw [hln]; omega
        simp only at hb
        rw [← en, ← hsq] at hb
        by_cases hbz : (beg S' (L.seg + 1) L'.seq).1 = 0
        · obtain ⟨w1, w2⟩ := hb.2 hbz
          refine .inr ⟨hbz, Cn, ⟨true, R.next + (B.length + 1), R.cs ++ ks⟩, [], [], wc, 1, ?_⟩
          refine ⟨by rw [← en]; simp only; rw [← hsq]; exact w1, hsy, w2, hch, en, (fun b hb => by cases hb), rfl, g2.wt, g2.rt, by rw [g2.all]; simp, ?_, ?_, g2.st, by simp, (fun _ => ⟨rfl, z2⟩), ?_, ?_, by omega⟩
          · show (L'.seq + 1) % 18446744073709551616 = R.next + (B.length + 1) + (0 + 1)
            rw [Nat.mod_eq_of_lt (by omega)]; omega
          · show (L'.seq + 1) % 18446744073709551616 + L'.wait.length ≤ _
            rw [Nat.mod_eq_of_lt (by omega)]; omega
          · show b0 + L'.done ≤ (R.cs ++ ks).length + _
            rw [List.length_append]; omega
          · show b0 + L'.done + L'.grp ≤ (R.cs ++ ks).length + _
            rw [List.length_append]; omega
        · exact .inl ⟨hbz, (hb.1 hbz).mono (by omega) (Nat.le_refl _)⟩
end
/-- A script is played. -/
theorem Ok8.play {b0 : Nat} : ∀ (os : List OpQ) {p : Py} {T M : Nat}, Ok8 b0 (T + p.turns) M p.L p.S p.put → p.turns ≤ 20 → T + 20 < 64 → M + 4 * os.length < 18446744073709551616 → Ok8 b0 (T + 20) (M + 4 * os.length) (p.play os).L (p.play os).S (p.play os).put
  | [], p, T, M, h, ht, hT, hM => h.mono (by omega) (by simp)
  | o :: r, p, T, M, h, ht, hT, hM => by
    rw [List.length_cons] at hM
    have hs : Ok8 b0 (T + (p.step o).turns) (M + 4) (p.step o).L (p.step o).S (p.step o).put ∧ (p.step o).turns ≤ 20 := by
      have hm := h.mono (Nat.le_refl _) (show M ≤ M + 4 by omega)
      unfold Py.step
      split
      · split
        · exact ⟨(h.put o.c).mono (Nat.le_refl _) (by omega), ht⟩
        · exact ⟨hm, ht⟩
      · split
        · split
          · exact ⟨h.turn (by omega) (by omega), by show p.turns + 1 ≤ 20; omega⟩
          · exact ⟨hm, ht⟩
        · split
          · exact ⟨hm, ht⟩
          · exact ⟨(h.flush (by omega)).mono (Nat.le_refl _) (by omega), ht⟩
    have := Ok8.play r hs.1 hs.2 hT (by omega)
    rw [show M + 4 + 4 * r.length = M + 4 * (r.length + 1) by omega] at this
    rw [List.length_cons]
    exact this
/-- Opened, on a disk that is read. -/
theorem ok8_open {S S' : Dsk} {Cs : List (List Int × Nat)} {R : Rdr} {er : Int} {x : Option (Lg × List Cm)} {M : Nat} (hu : S.up) (h : Wl S.P 1 Cs) (hs : ∀ x ∈ Cs, x.2 = x.1.length) (hc : Chain 1 ⟨false, 0, []⟩ Cs R) (hn : S.P.n + 3 ≤ 65536) (h64 : Cs.length < 64) (hM : R.next + 1 ≤ M) (hM2 : M < 18446744073709551616) (ho : OpenR S 1 er x S') :
    ∃ L, er = 0 ∧ x = some (L, R.cs) ∧ L.done = 0 ∧ S'.P.n = S.P.n + 3 ∧ S'.up ∧ Ok8 R.cs.length (Cs.length + 1) M L S' R.cs := by
  obtain ⟨e1, e2, e3⟩ := open_chain hu h (by decide) hc hn h64 ho
  obtain ⟨b1, b2, b3, b4, b5⟩ := beg_up hu h R.next hn h64 (by omega)
  subst e3
  refine ⟨_, e1, e2, rfl, b3, b5, .inr ⟨rfl, Cs, R, [], [], [], 1, ?_⟩⟩
  have e : live (1 + Cs.length) R.next [] 1 = (fra R.next (fstB (1 + Cs.length)), (fra R.next (fstB (1 + Cs.length))).length) := by
    have := live_all (1 + Cs.length) R.next []
    rw [fras_one] at this
    exact this
  refine ⟨by rw [e]; exact b2, hs, b4, hc, rfl, (fun b hb => by cases hb), rfl, rfl, (fun c hc => by cases hc), by simp, ?_, ?_, Nat.zero_le _, by simp, (fun _ => ⟨rfl, rfl⟩), Nat.le_add_right _ _, Nat.le_add_right _ _, Nat.le_refl _⟩
  · show (R.next + 1) % 18446744073709551616 = R.next + (0 + 1)
    rw [Nat.mod_eq_of_lt (by omega)]
  · show (R.next + 1) % 18446744073709551616 + 0 ≤ M
    rw [Nat.mod_eq_of_lt (by omega)]
    omega
end Go.Proofs.YtgifcgniphncdaaGreatDoor

/-
  'plays', walked.
-/
set_option linter.unusedVariables false
set_option linter.unusedSimpArgs false
namespace Go.Proofs.YtgifcgniphncdaaGreatDoor
open Go.RowKit Go.Maps

set_option maxRecDepth 100000 in
set_option maxHeartbeats 8000000 in
theorem plays_any {w : World} {B : Nat} {Z : Nat → Prop} {l d : Nat} {v : Value} {p0 : Py} (h : Pz w B Z l d v p0) (hB : B ≤ w.heap.size) (hZB : ∀ j, j < B → Z j) {ao : Option Addr} {len cap : Nat} {os : List OpQ} (hsq : Sq w B ao len cap os) (hN : p0.N + 100 ≤ 1000000) (hm0 : p0.many = 0) (ht0 : p0.turns = 0) (hpl : p0.put.length ≤ 1000000) :
    Calls Tryz.prog 20 #[.pointer (some ⟨l, 0, none⟩), .slice ao len cap, v] w fun e w' => ∃ v', e = .returned v' ∧ Pz w' B Z l d v' (p0.play (os.take 100)) ∧ Below B w w' := by
  obtain ⟨i0, hi, hz0, hz1, hz2⟩ := info_parts infoC
  have hlen : (len : Int) ≤ 9223372036854775807 := by have := hsq.1.2.1; have := hsq.1.2.2.1; unfold maxLen at this; omega
  have HSQ := hid8 hsq
  have HL : Hid (os.length = len) := hid8 hsq.1.1
  have HH := hid8 h
  have HZB := hid8 hZB
  clear h hsq hZB
  go_enter Tryz.func20, Tryz.ntmps20
  go_wp2
  go_loopw [2, 7, 8, 9, 10, 11, 12] (fun u m t i _ _ _ wr => ∃ (k : Nat) (v : Value), k ≤ len ∧ k ≤ 100 ∧ i = .int .i64 (k : Int) ∧ u = v ∧ m = .int .i64 (((p0.play (os.take k)).many : Nat) : Int) ∧ t = .int .i64 (((p0.play (os.take k)).turns : Nat) : Int) ∧ Pz wr B Z l d v (p0.play (os.take k)) ∧ Below B w wr) (fun _ _ _ i _ _ _ _ => 100 - (intOf i).toNat)
  case atStart => exact ⟨0, v, by omega, by omega, rfl, rfl, by show Value.int .i64 0 = .int .i64 ((p0.many : Nat) : Int); rw [hm0]; rfl, by show Value.int .i64 0 = .int .i64 ((p0.turns : Nat) : Int); rw [ht0]; rfl, HH.out, Below.refl _ _⟩
  case round =>
    clear HH
    obtain ⟨k, vk, hk, hk1, rfl, rfl, rfl, rfl, hp, hb⟩ := hrel
    obtain ⟨wR, hwR⟩ : ∃ x, x = wr := ⟨_, rfl⟩
    subst hwR
    have hsz := hb.size
    have hbd := play_bounds (os.take k) p0
    have htl : (os.take k).length ≤ k := by rw [List.length_take]; omega
    by_cases hkl : k < len ∧ k < 100
    · obtain ⟨hkl, hk2⟩ := hkl
      have hkl2 : (k : Int) < (len : Int) := by omega
      have hk3 : (k : Int) < 100 := by omega
      obtain ⟨o, ho⟩ : ∃ o, os[k]? = some o := ⟨os[k]'(by have := HL.out; omega), List.getElem?_eq_getElem _⟩
      have HST : Hid (p0.play (os.take (k + 1)) = (p0.play (os.take k)).step o) := hid8 (play_snoc8 p0 os k o ho)
      obtain ⟨hq1, hq2, hq3⟩ := HSQ.out.below hb
      obtain ⟨b, off, rfl, hbl, hcell⟩ := hq1.2.2.2 (by omega)
      have hbB := hq2 b off rfl (by omega)
      have c0 : wR.cell? ⟨b, off + k * 9, none⟩ = some (.int .i64 o.kind) := hcell k o ho 0 _ rfl
      have c1 : wR.cell? ⟨b, off + k * 9 + 1, none⟩ = some (.int .i64 o.time) := hcell k o ho 1 _ rfl
      have c2 : wR.cell? ⟨b, off + k * 9 + 2, none⟩ = some (.slice o.au o.lu o.cu) := hcell k o ho 2 _ rfl
      have c2' : wR.cell? ⟨b, off + k * 9 + 1 + 1, none⟩ = some (.slice o.au o.lu o.cu) := c2
      obtain ⟨hws, hwb, hk0, hk9⟩ := hq3 o (List.mem_of_getElem? ho)
      have HPK := hid8 (pick8_any o.kind 8 hk0 hk9 (by decide) (by decide) wR)
      have hpk := pkn_bd o.kind 8 (by decide)
      have HP := hid8 hp
      have HB := hid8 hb
      have HWS := hid8 hws
      have HWB := hid8 hwb
      have hm18 := hbd.2.1 (by omega)
      have ht20 := hbd.2.2.1 (by omega)
      generalize hpy : p0.play (os.take k) = py at *
      have hsp : Hid (py.step o = p0.play (os.take (k + 1))) := hid8 HST.out.symm
      unfold Py.step at hsp
      clear hcell hq1 hq2 hq3 hp hb hws hwb ho HST hpy
      generalize hq : pkn o.kind 8 = q at *
      go_wp2_with fail
      refine HPK.out.mono ?_
      rintro e w1 ⟨rfl, rfl⟩
      clear HPK
      by_cases q0 : q = 0
      · subst q0
        by_cases hm : py.many < 18
        · have hm2 : ((py.many : Int)) < 18 := by omega
          have eP : Hid (p0.play (os.take (k + 1)) = { py with L := (py.L.put o.c).2, put := if (py.L.put o.c).1.2 = 0 then py.put ++ [o.c] else py.put, many := py.many + 1, N := py.N + 1 }) := hid8 (by have := hsp.out; rw [if_pos rfl, if_pos hm] at this; exact this.symm)
          obtain ⟨A, hpm, hA⟩ := HP.out.it
          have HPu := hid8 (walPut_any hpm (by omega) HWS.out o.time)
          rw [show (⟨o.time, o.ws⟩ : Cm) = o.c from rfl] at HPu
          have HBL := hid8 (fun (w' : World) (F : Fr A w1 w') => hpm.bel F)
          have HAA := hid8 hA
          clear hpm hA
          go_wp2_with fail
          refine HPu.out.mono ?_
          rintro e w2 ⟨rfl, hp2, hf2⟩
          have hzw2 := hf2.size
          have hb2 := HBL.out _ hf2
          have HB2 := hid8 (HB.out.trans hb2)
          have HP2 := hid8 (HP.out.next HAA.out hp2 hf2 (many := py.many + 1) (turns := py.turns))
          have d1 : w2.cell? ⟨b, off + k * 9 + 1, none⟩ = some (.int .i64 o.time) := (hb2.cell (p := ⟨b, off + k * 9 + 1, none⟩) hbB).trans c1
          have d2 : w2.cell? ⟨b, off + k * 9 + 1 + 1, none⟩ = some (.slice o.au o.lu o.cu) := (hb2.cell (p := ⟨b, off + k * 9 + 1 + 1, none⟩) hbB).trans c2'
          have d2' : w2.cell? ⟨b, off + k * 9 + 2, none⟩ = some (.slice o.au o.lu o.cu) := d2
          have HWS2 := hid8 (show Seq 3 Wr.cells w2 o.au o.lu o.cu o.ws from seq_same HWS.out hzw2 (fun hl b' off' e => hb2.block b' (HWB.out b' off' e hl)))
          have hbl2 : b < w2.heap.size := by omega
          clear HPu hp2 hf2 HP HB HBL hb2 c0 c1 c2 c2'
          generalize hpa : py.L.put o.c = PA at *
          obtain ⟨⟨tk, er⟩, L2⟩ := PA
          by_cases her : er = 0
          · subst her
            obtain ⟨ps, e0, r1, r3⟩ := HP2.out.pu
            have hpl2 : ps.length ≤ p0.put.length + 100 := by
              have e1 : ps.length = py.put.length := by rw [← List.length_map (f := fun p : Cm × Value => p.1), e0]
              omega
            have bA : Below w2.heap.size w2 (w2.alloc (.cells #[.int .i64 o.time, .slice o.au o.lu o.cu] 37)) := (Below.refl _ _).alloc (Nat.le_refl _) _
            have HR1 := hid8 (row_on r1 (fun j e => bA.block j (World.ownsRow.lt r1 j e).2))
            have HNW := hid8 (cell_two_new w2 (.int .i64 o.time) (.slice o.au o.lu o.cu) 37)
            have R1 := hid8 r1
            have R3 := hid8 r3
            have zA : (w2.alloc (.cells #[.int .i64 o.time, .slice o.au o.lu o.cu] 37)).heap.size = w2.heap.size + 1 := by simp
            clear r1 r3
            go_wp2_with (first | (at_builtin; refine Hid.out ?_) | fail)
            refine hid8 ?_
            refine wpList_append_own_at _ rfl _ _ 45 rfl 0 37 i0 (.agg #[.int .i64 0, .slice none 0 0]) 2 32 Tryz.underlying45 hi hz0 hz1 hz2 rfl (by decide) u2 ps.length (ps.flatMap cc) rfl HR1.out ⟨w2.heap.size, 0, none⟩ 1 1 [.int .i64 o.time, .slice o.au o.lu o.cu] rfl rfl HNW.out (by intro u hu; simp at hu; rcases hu with rfl | rfl <;> rfl) (by unfold maxLen; omega) (by omega) (Nat.zero_le _) ?_
            intro v' w3 hown hgrow _ hat
            have hz3 : w2.heap.size + 1 ≤ w3.heap.size := by have := hgrow.size; omega
            obtain ⟨A2, hpm2, hA2⟩ := HP2.out.it
            have F3 : Fr (fun j => u2.ownBlock = some j) w2 w3 := ((Fr.refl _ w2).trans (Fr.below bA) (fun j e => .inl e)).trans (Fr.grown (F := fun j => u2.ownBlock = some j) hgrow (fun j e => e)) (fun j e => .inl e)
            have hvz : ∀ j, Z j → u2.ownBlock ≠ some j → w3.heap[j]? = w2.heap[j]? := fun j hj hn => F3.block j (HP2.out.zl j hj) hn
            have HZV : Hid (∀ j, Z j → u2.ownBlock ≠ some j) := hid8 HP2.out.vz
            have hP3 : Pz w3 B Z l d v' { py with L := L2, put := py.put ++ [o.c], many := py.many + 1, N := py.N + 1 } := by
              refine ⟨⟨A2, hpm2.keep F3 (fun j hj e => (hA2 j hj).1 e) (fun j e => HP2.out.vb j e), fun j hj => ⟨fun e => ?_, (hA2 j hj).2⟩⟩, PuR.push (w := w2) e0 R3.out HWS2.out (fun hl g o' e => HZB.out g (HWB.out g o' e hl)) F3.size (fun j hj => hvz j hj (HZV.out j hj)) hown, fun g e => ?_, (fun j hj => by have := HP2.out.zl j hj; omega), fun j hj e => ?_⟩
              · rcases hat with q | q
                · exact (hA2 j hj).1 (by rw [← q, e])
                · have := (hpm2.lo j hj).2
                  rw [q] at e
                  simp only [Option.some.injEq] at e
                  omega
              · rcases hat with q | q
                · exact HP2.out.vb g (by rw [← q, e])
                · rw [q] at e
                  simp only [Option.some.injEq] at e
                  omega
              · rcases hat with q | q
                · exact HZV.out j hj (by rw [← q, e])
                · have := HP2.out.zl j hj
                  rw [q] at e
                  simp only [Option.some.injEq] at e
                  omega
            have HP3 := hid8 hP3
            have HB3 := hid8 (HB2.out.trans (F3.to (n := B) (fun k hk e => by have := HP2.out.vb k e; omega) (by omega)))
            have HC3 : Hid (((py.many : Int) + 1) = ((py.many + 1 : Nat) : Int)) := hid8 (by omega)
            clear hown hgrow hat hP3 F3 hvz hpm2 hA2 HR1 HNW R1 R3 bA
            go_wp2
            go_roundw
            case rel => exact ⟨k + 1, _, by omega, by omega, by go_num, rfl, by rw [eP.out]; go_num, by rw [eP.out], by rw [eP.out]; first | (rw [if_pos rfl]; exact HP3.out) | (simp only [if_true]; exact HP3.out), HB3.out⟩
            case measure => simp [intOf]; omega
          · have herb : (er == 0) = false := by simpa using her
            go_wp2
            go_roundw
            case rel => exact ⟨k + 1, _, by omega, by omega, by go_num, rfl, by rw [eP.out]; go_num, by rw [eP.out], by rw [eP.out, if_neg her]; exact HP2.out, HB2.out⟩
            case measure => simp [intOf]; omega
        · have hm2 : ¬ (py.many : Int) < 18 := by omega
          have eP : Hid (p0.play (os.take (k + 1)) = py) := hid8 (by have := hsp.out; rw [if_pos rfl, if_neg hm] at this; exact this.symm)
          go_wp2
          go_roundw
          case rel => exact ⟨k + 1, _, by omega, by omega, by go_num, rfl, by rw [eP.out], by rw [eP.out], by rw [eP.out]; exact HP.out, HB.out⟩
          case measure => simp [intOf]; omega
      · have q0a : (q == 0) = false := by simpa using q0
        have q0b : (q != 0) = true := by simpa using q0
        by_cases q2 : q = 2
        · subst q2
          by_cases ht : py.turns < 20
          · have ht2 : ((py.turns : Int)) < 20 := by omega
            have eP : Hid (p0.play (os.take (k + 1)) = { py with L := (py.L.turn py.S).2.1, S := (py.L.turn py.S).2.2, turns := py.turns + 1 }) := hid8 (by have := hsp.out; rw [if_neg (by decide), if_pos rfl, if_pos ht] at this; exact this.symm)
            obtain ⟨A, hpm, hA⟩ := HP.out.it
            have HFl := hid8 (walRotate_any hpm)
            have HBL := hid8 (fun (w' : World) (F : Fr A w1 w') => hpm.bel F)
            have HAA := hid8 hA
            clear hpm hA
            go_wp2_with fail
            refine HFl.out.mono ?_
            rintro e w2 ⟨rfl, hp2, hf2⟩
            have HB2 := hid8 (HB.out.trans (HBL.out _ hf2))
            have HP2 := hid8 (HP.out.next HAA.out hp2 hf2 (many := py.many) (turns := py.turns + 1))
            clear HFl hp2 hf2 HP HB HBL
            go_wp2
            go_roundw
            case rel => exact ⟨k + 1, _, by omega, by omega, by go_num, rfl, by rw [eP.out], by rw [eP.out]; go_num, by rw [eP.out]; exact HP2.out, HB2.out⟩
            case measure => simp [intOf]; omega
          · have ht2 : ¬ (py.turns : Int) < 20 := by omega
            have eP : Hid (p0.play (os.take (k + 1)) = py) := hid8 (by have := hsp.out; rw [if_neg (by decide), if_pos rfl, if_neg ht] at this; exact this.symm)
            go_wp2
            go_roundw
            case rel => exact ⟨k + 1, _, by omega, by omega, by go_num, rfl, by rw [eP.out], by rw [eP.out], by rw [eP.out]; exact HP.out, HB.out⟩
            case measure => simp [intOf]; omega
        · have q2a : (q == 2) = false := by simpa using q2
          have q2b : (q != 2) = true := by simpa using q2
          by_cases q3 : q = 3
          · subst q3
            have eP : Hid (p0.play (os.take (k + 1)) = py) := hid8 (by have := hsp.out; rw [if_neg (by decide), if_neg (by decide), if_pos rfl] at this; exact this.symm)
            go_wp2
            go_roundw
            case rel => exact ⟨k + 1, _, by omega, by omega, by go_num, rfl, by rw [eP.out], by rw [eP.out], by rw [eP.out]; exact HP.out, HB.out⟩
            case measure => simp [intOf]; omega
          · have q3a : (q == 3) = false := by simpa using q3
            have q3b : (q != 3) = true := by simpa using q3
            have eP : Hid (p0.play (os.take (k + 1)) = { py with L := (py.L.flush py.S).2.1, S := (py.L.flush py.S).2.2 }) := hid8 (by have := hsp.out; rw [if_neg q0, if_neg q2, if_neg q3] at this; exact this.symm)
            obtain ⟨A, hpm, hA⟩ := HP.out.it
            have HFl := hid8 (walFlush_any hpm)
            have HBL := hid8 (fun (w' : World) (F : Fr A w1 w') => hpm.bel F)
            have HAA := hid8 hA
            clear hpm hA
            go_wp2_with fail
            refine HFl.out.mono ?_
            rintro e w2 ⟨rfl, hp2, hf2⟩
            have HB2 := hid8 (HB.out.trans (HBL.out _ hf2))
            have HP2 := hid8 (HP.out.next HAA.out hp2 hf2 (many := py.many) (turns := py.turns))
            clear HFl hp2 hf2 HP HB HBL
            go_wp2
            go_roundw
            case rel => exact ⟨k + 1, _, by omega, by omega, by go_num, rfl, by rw [eP.out], by rw [eP.out], by rw [eP.out]; exact HP2.out, HB2.out⟩
            case measure => simp [intOf]; omega
    · have hend : Hid (os.take 100 = os.take k) := hid8 (by
        by_cases h1 : k < len
        · have : k = 100 := by omega
          rw [this]
        · have e1 : k = len := by omega
          rw [List.take_of_length_le (by have := HL.out; omega), List.take_of_length_le (by have := HL.out; omega)])
      have HP := hid8 hp
      have HB := hid8 hb
      clear hp hb
      by_cases h1 : k < len
      · have h2 : ¬ (k : Int) < 100 := by omega
        have h1' : (k : Int) < (len : Int) := by omega
        go_wp2
        go_ret
        exact ⟨_, rfl, by rw [hend.out]; exact HP.out, HB.out⟩
      · have h1' : ¬ (k : Int) < (len : Int) := by omega
        go_wp2
        go_ret
        exact ⟨_, rfl, by rw [hend.out]; exact HP.out, HB.out⟩
end Go.Proofs.YtgifcgniphncdaaGreatDoor

/-
  'shown': the document's examples, played.
-/
set_option linter.unusedVariables false
set_option linter.unusedSimpArgs false
namespace Go.Proofs.YtgifcgniphncdaaGreatDoor
open Go.RowKit Go.Maps

/-- The states of the three flushes. -/
def stx : Nat → Lg × Dsk
  | 0 => (lD, sB)
  | k + 1 => ((stx k).1.flush (stx k).2).2
theorem stx_ans (k : Nat) (hk : k < 3) : ((stx k).1.flush (stx k).2).1 = (false, 0) := by
  match k, hk with
  | 0, _ => exact flush1.1
  | 1, _ => exact flush2.1
  | 2, _ => exact flush3.1
theorem stx3 : stx 3 = q3x.2 := rfl
theorem nm3 : nm8 3 = ⟨#[108, 111, 103, 45, 51]⟩ := by
  apply ByteArray.ext
  show (nmL 3).toArray = _
  unfold nmL
  rw [show (3 : Int) = ((3 : Nat) : Int) from rfl, itoa_nat, Lib.decDigits_one (by decide)]
  rfl

set_option maxRecDepth 100000 in
set_option maxHeartbeats 8000000 in
theorem shown8_any {B0 : Nat} (w : World) (hg0 : Gl B0 w) (hB0 : B0 ≤ w.heap.size) : Calls Tryz.prog 8 #[] w fun e w' => e = .returned (.bool true) ∧ Below w.heap.size w w' := by
  have HG := hid8 (hg0.up hB0)
  clear hg0 hB0
  go_enter Tryz.func8, Tryz.ntmps8
  go_wp2_with fail
  refine (dv_new w).mono ?_
  rintro e w1 ⟨d, rfl, hD, hb1⟩
  have hz1 := hb1.size
  have HOP := hid8 (walOpen_any (B := w.heap.size) (show DV w1 _ d sA from hD) (fun j hj => hj.1) hz1 (HG.out.on hb1) 1)
  clear hD
  have HB1 := hid8 hb1
  clear hb1
  go_wp2_with fail
  refine HOP.out.mono ?_
  rintro e w2 ⟨er, x, S', hop, hf, hres⟩
  obtain ⟨rfl, rfl, rfl⟩ := openA hop
  have hb2 : Below w.heap.size w1 w2 := hf.to (fun k hk e => by have := e.1; omega) hz1
  rcases hres with ⟨h, -⟩ | ⟨L, cs, l, vc, A, C, hx, rfl, hpm, hcr, -, -⟩
  · cases h
  simp only [Option.some.injEq, Prod.mk.injEq] at hx
  obtain ⟨rfl, rfl⟩ := hx
  obtain ⟨av, cv, rfl⟩ := hcr.len
  have HB2 := hid8 (HB1.out.trans hb2)
  have HP2 : Hid (PX w2 w.heap.size l d sB lB 0) := hid8 ⟨A, hpm⟩
  have HOS := hid8 (pxOps HP2.out)
  rw [wlB.2.1] at HOS
  clear HOP hop hf hb2 hpm hcr HB1 hz1
  simp only [List.length_nil]
  go_wp2_with fail
  refine HOS.out.mono ?_
  rintro e w3 ⟨rfl, rfl⟩
  clear HOS
  -- two are put
  go_wp2_with fail
  refine (one_any 1 w3).mono ?_
  rintro e w4 ⟨a4, rfl, hs4, hb4⟩
  have HP4 := hid8 (HP2.out.below hb4)
  have HB4 := hid8 (HB2.out.trans (hb4.mono HP2.out.bw))
  have HPU := hid8 (pxPut HP4.out (by decide) hs4 1)
  rw [show lB.put ⟨1, [w1x]⟩ = lB.put c1x from rfl, show (lB.put c1x).1 = (1, 0) from by rw [put1]] at HPU
  clear hs4 hb4 HP4 HP2 HB2
  go_wp2_with fail
  refine HPU.out.mono ?_
  rintro e w5 ⟨rfl, hp5, hb5⟩
  have HP5 : Hid (PX w5 w.heap.size l d sB lC 1) := hid8 hp5
  have HB5 := hid8 (HB4.out.trans hb5)
  clear HPU hp5 hb5 HB4
  go_wp2_with fail
  refine (one_any 2 w5).mono ?_
  rintro e w6 ⟨a6, rfl, hs6, hb6⟩
  have HP6 := hid8 (HP5.out.below hb6)
  have HB6 := hid8 (HB5.out.trans (hb6.mono HP5.out.bw))
  have HPU := hid8 (pxPut HP6.out (by decide) hs6 2)
  rw [show lC.put ⟨2, [w1x]⟩ = lC.put c2x from rfl, show (lC.put c2x).1 = (2, 0) from by rw [put2]] at HPU
  clear hs6 hb6 HP6 HP5 HB5
  go_wp2_with fail
  refine HPU.out.mono ?_
  rintro e w7 ⟨rfl, hp7, hb7⟩
  have HP7 : Hid (PX w7 w.heap.size l d (stx 0).2 (stx 0).1 2) := hid8 hp7
  have HB7 := hid8 (HB6.out.trans hb7)
  clear HPU hp7 hb7 HB6
  go_wp2
  go_loopw [9, 10, 11] (fun i _ _ wr => ∃ k : Nat, k ≤ 3 ∧ i = .int .i64 (k : Int) ∧ PX wr w.heap.size l d (stx k).2 (stx k).1 2 ∧ Below w.heap.size w wr) (fun i _ _ _ => 3 - (intOf i).toNat)
  case atStart => exact ⟨0, by omega, rfl, HP7.out, HB7.out⟩
  case round =>
    clear HP7 HB7
    obtain ⟨k, hk, rfl, hp, hb⟩ := hrel
    obtain ⟨wR, hwR⟩ : ∃ x, x = wr := ⟨_, rfl⟩
    subst hwR
    by_cases hk3 : k < 3
    · have HFl := hid8 (pxFlush hp)
      rw [stx_ans k hk3] at HFl
      have HB := hid8 hb
      have hk4 : (k : Int) < 3 := by omega
      clear hp hb
      go_wp2_with fail
      refine HFl.out.mono ?_
      rintro e w8 ⟨rfl, hp8, hb8⟩
      have HP8 : Hid (PX w8 w.heap.size l d (stx (k + 1)).2 (stx (k + 1)).1 2) := hid8 hp8
      have HB8 := hid8 (HB.out.trans hb8)
      clear HFl hp8 hb8 HB
      go_wp2
      go_roundw
      case rel => exact ⟨k + 1, by omega, by go_num, HP8.out, HB8.out⟩
      case measure => simp [intOf]; omega
    · obtain rfl : k = 3 := by omega
      rw [stx3] at hp
      have HB := hid8 hb
      have HFd := hid8 (pxFlushed hp)
      rw [show q3x.2.1.done = 0 from by rw [flush3.2.1]] at HFd
      have HFl := hid8 (pxFlush hp)
      rw [show q3x.2.1.flush q3x.2.2 = q4x from rfl, flush4.1] at HFl
      clear hp hb
      go_wp2_with fail
      refine HFd.out.mono ?_
      rintro e w8 ⟨rfl, rfl⟩
      clear HFd
      go_wp2_with fail
      refine HFl.out.mono ?_
      rintro e w9 ⟨rfl, hp9, hb9⟩
      have HB9 := hid8 (HB.out.trans hb9)
      have HRo := hid8 (pxRotate hp9)
      rw [show q4x.2.1.turn q4x.2.2 = q5x from rfl, turn5.1] at HRo
      clear HFl hp9 hb9 HB
      go_wp2_with fail
      refine HRo.out.mono ?_
      rintro e wA ⟨rfl, hpA, hbA⟩
      obtain ⟨AA, ⟨⟨D, v, d1, d2, d3, d4⟩, hal, hAl, hBw, hgA, okA⟩⟩ := hpA
      have HBA := hid8 (HB9.out.trans hbA)
      have hnD : ¬ D l := fun e => (d4 l e).2 rfl
      have HO1 := hid8 (walOpen_any (B := w.heap.size) d1 (fun j hj => (hAl j (d4 j hj).1).1) hBw hgA 1)
      have HLm := hid8 d2
      have HDl : Hid (∀ j, D j → w.heap.size ≤ j) := hid8 (fun j hj => (hAl j (d4 j hj).1).1)
      have HLl : Hid (∀ j, D j → j < wA.heap.size) := hid8 d1.lt
      clear HRo hbA HB9 d1 d2 d3 d4 hAl hgA okA hal
      go_wp2_with fail
      refine HO1.out.mono ?_
      rintro e wB ⟨er, x, S', hop, hf, hres⟩
      obtain ⟨rfl, L6, rfl⟩ := open6 hop
      rcases hres with ⟨h, -⟩ | ⟨L, cs, l2, vc, A2, C2, hx, rfl, hpm, hcr, hA2, -⟩
      · cases h
      simp only [Option.some.injEq, Prod.mk.injEq] at hx
      obtain ⟨rfl, rfl⟩ := hx
      obtain ⟨av2, cv2, rfl⟩ := hcr.len
      have hzB := hf.size
      have HBB := hid8 (HBA.out.trans (hf.to (fun k hk e => by have := HDl.out k e; omega) hBw))
      have HLB := hid8 (HLm.out.fr hf hnD)
      obtain ⟨⟨D2, v2, g1, g2, g3, g4⟩, hal2, hAl2, hBw2, hgB, okB⟩ := hpm
      have HO2 := hid8 (walOpen_any (B := w.heap.size) g1 (fun j hj => (hAl2 j (g4 j hj).1).1) hBw2 hgB 0)
      have hDD : Hid (∀ j, D2 j → w.heap.size ≤ j) := hid8 (fun j hj => (hAl2 j (g4 j hj).1).1)
      have hnD2 : ¬ D2 l := fun e => by
        rcases hA2 l (g4 l e).1 with q | q
        · exact hnD q
        · have := HLm.out.lt; have := q.1; omega
      have HGB := hid8 hgB
      clear HO1 hop hf hcr hA2 g1 g2 g3 g4 hal2 hAl2 hgB okB HLm HBA
      simp only [List.length_cons, List.length_nil]
      go_wp2_with fail
      refine HO2.out.mono ?_
      rintro e wC ⟨er, x, S', hop, hf, hres⟩
      obtain ⟨rfl, rfl⟩ := open7 hop
      rcases hres with ⟨-, rfl, -⟩ | ⟨L, cs, l3, vc, A3, C3, hx, -⟩
      rotate_left
      · cases hx
      have hbC := hf.to (n := w.heap.size) (fun k hk e => by have := hDD.out k e; omega) hBw2
      have HBC := hid8 (HBB.out.trans hbC)
      have HLC := hid8 (HLB.out.fr hf hnD2)
      have HFd := hid8 (walFlushed_any HLC.out)
      rw [turn5.2.1] at HFd
      have HNm := hid8 (name_any (HGB.out.on hbC) 3 (by decide) (by decide))
      rw [nm3] at HNm
      clear HO2 hop hf hbC HBB HLB HLC
      go_wp2_with fail
      refine HFd.out.mono ?_
      rintro e wD ⟨rfl, rfl⟩
      clear HFd
      go_wp2_with fail
      refine HNm.out.mono ?_
      rintro e wE ⟨rfl, hbE⟩
      have HBE := hid8 (HBC.out.trans (hbE.mono (by have := HBC.out.size; omega)))
      clear HNm hbE HBC
      go_wp2
      go_ret
      exact ⟨rfl, HBE.out⟩
end Go.Proofs.YtgifcgniphncdaaGreatDoor

/-
  Around a log: the power, opening what is read, rows of commits that are copied.
-/
set_option linter.unusedVariables false
set_option linter.unusedSimpArgs false
namespace Go.Proofs.YtgifcgniphncdaaGreatDoor
open Go.RowKit Go.Maps

section
variable {w : World} {B : Nat} {A D : Nat → Prop} {l d : Nat} {S : Dsk} {L : Lg} {N : Nat}
theorem pm_cutAt (h : PM w B A l d S L N) (n : Int) :
    Calls Tryz.prog 18 #[.pointer (some ⟨d, 0, none⟩), .int .i64 n] w fun e w' => e = .returned (.tuple #[]) ∧ PM w' B (Land.more A w w') l d ⟨S.P, n, false⟩ L N ∧ Fr A w w' := by
  obtain ⟨⟨D, v, d1, d2, d3, d4⟩, hal, hAl, hBw, hg, ok⟩ := h
  refine (dv_cutAt d1 n).mono ?_
  rintro e w' ⟨rfl, hD, hF⟩
  have hnl : ¬ D l := fun e => (d4 l e).2 rfl
  have hF2 : Fr A w w' := hF.mono fun j _ e => (d4 j e).1
  refine ⟨rfl, PM.put hAl hBw hal hg d4 hD ((hF.block l d2.lt hnl).trans d2) (d3.over (fun j hj => (hAl j hj).2) (hF.mono fun j _ e => .inl e)) hF2 ⟨ok.s0, ok.s1, ok.s2, ok.q, ok.st, ok.n, ok.big, ok.okb⟩, hF2⟩
theorem pm_ops (h : PM w B A l d S L N) : Calls Tryz.prog 24 #[.pointer (some ⟨d, 0, none⟩)] w fun e w' => e = .returned (.int .i64 S.P.n) ∧ w' = w := by
  obtain ⟨⟨D, v, d1, d2, d3, d4⟩, hr⟩ := h
  exact dv_ops d1
theorem pm_crash (h : PM w B A l d S L N) (ke di te : Int) :
    Calls Tryz.prog 22 #[.pointer (some ⟨d, 0, none⟩), .agg #[.int .i64 ke, .int .i64 di, .int .i64 te]] w fun e w' => ∃ d', e = .returned (.pointer (some ⟨d', 0, none⟩)) ∧
      DV w' (fun j => w.heap.size ≤ j ∧ j < w'.heap.size) d' ⟨Land.crashed S.P ke di te, -1, false⟩ ∧ Below w.heap.size w w' := by
  obtain ⟨⟨D, v, d1, d2, d3, d4⟩, hr⟩ := h
  exact dv_crash d1 ke di te
/-- Opened, on a disk that is read. -/
theorem open8_any {Cs : List (List Int × Nat)} {R : Rdr} {M : Nat} (hD : DV w D d S) (hDB : ∀ j, D j → B ≤ j) (hB : B ≤ w.heap.size) (hg : Gl B w) (hu : S.up) (h : Wl S.P 1 Cs) (hs : ∀ x ∈ Cs, x.2 = x.1.length) (hc : Chain 1 ⟨false, 0, []⟩ Cs R) (hn : S.P.n + 3 ≤ 65536) (h64 : Cs.length < 64) (hM : R.next + 1 ≤ M) (hM2 : M < 18446744073709551616) :
    Calls Tryz.prog 17 #[.pointer (some ⟨d, 0, none⟩), .int .i64 1] w fun e w' => ∃ L S' l vc A C, e = .returned (.tuple #[.pointer (some ⟨l, 0, none⟩), vc, .int .i64 0]) ∧ PM w' B A l d S' L 0 ∧ CRow w' C vc R.cs ∧ (∀ j, C j → w.heap.size ≤ j ∧ j < w'.heap.size ∧ ¬ A j) ∧ (∀ j, A j → Land.more D w w' j) ∧ Fr D w w' ∧ L.done = 0 ∧ S'.P.n = S.P.n + 3 ∧ Ok8 R.cs.length (Cs.length + 1) M L S' R.cs := by
  refine (walOpen_any hD hDB hB hg 1).mono ?_
  rintro e w' ⟨er, x, S', hop, hf, hres⟩
  obtain ⟨L, e1, e2, e3, e4, e5, e6⟩ := ok8_open hu h hs hc hn h64 hM hM2 hop
  subst e1 e2
  rcases hres with ⟨h, -⟩ | ⟨L', cs, l, vc, A, C, hx, rfl, hpm, hcr, hA, hC⟩
  · cases h
  simp only [Option.some.injEq, Prod.mk.injEq] at hx
  obtain ⟨rfl, rfl⟩ := hx
  exact ⟨L, S', l, vc, A, C, rfl, hpm, hcr, hC, hA, hf, e3, e4, e6⟩
end
/-- A row that was put together is read, all of it below. -/
theorem Pz.cs {w : World} {B : Nat} {Z : Nat → Prop} {l d : Nat} {v : Value} {p : Py} (h : Pz w B Z l d v p) : ∃ ao cap, v = .slice ao p.put.length cap ∧ CS w (fun j => j < w.heap.size) ao p.put.length cap p.put := by
  obtain ⟨ao, cap, rfl, hc⟩ := h.pu.cs8
  exact ⟨ao, cap, rfl, hc.mono fun j hj => hj.elim (fun e => h.pu.lt j e) (fun e => h.zl j e)⟩
theorem CRow.parts {w : World} {A : Nat → Prop} {v : Value} {cs : List Cm} (h : CRow w A v cs) : ∃ ps : List (Cm × Value), ps.map (·.1) = cs ∧ w.ownsRow 0 37 2 v ps.length (ps.flatMap cc) ∧ (∀ p ∈ ps, ∃ au lu cu, p.2 = .slice au lu cu ∧ Seq 3 Wr.cells w au lu cu p.1.ws ∧ (0 < lu → ∀ g o, au = some ⟨g, o, none⟩ → A g)) ∧ ∀ g, v.ownBlock = some g → A g := by
  obtain ⟨ps, h0, h1, h2, h3⟩ := h
  refine ⟨ps, h0, h1, fun p hp => ?_, h2⟩
  obtain ⟨q1, q2⟩ := h3 p hp
  obtain ⟨au, lu, cu, e⟩ := erow_form q1
  rw [e] at q1 q2
  exact ⟨au, lu, cu, e, seq_of_row q1 (fun _ => rfl) (by decide), fun _ g o e2 => q2 g (by rw [e2]; rfl)⟩
theorem take_pre {α : Type} {a b r : List α} (h : b = a ++ r) : a = b.take a.length ∧ a.length ≤ b.length := by
  subst h
  simp
end Go.Proofs.YtgifcgniphncdaaGreatDoor

/-
  WalLasts: behind a crash a log tells a beginning of all that was put.
-/
set_option linter.unusedVariables false
set_option linter.unusedSimpArgs false
namespace Go.Proofs.YtgifcgniphncdaaGreatDoor
open Go.RowKit Go.Maps

theorem Sq.up {w : World} {B B' : Nat} {ao : Option Addr} {len cap : Nat} {os : List OpQ} (h : Sq w B ao len cap os) (hB : B ≤ B') : Sq w B' ao len cap os := by
  obtain ⟨h1, h2, h3⟩ := h
  exact ⟨h1, fun b off e hl => Nat.lt_of_lt_of_le (h2 b off e hl) hB, fun o ho => ⟨(h3 o ho).1, fun b off e hl => Nat.lt_of_lt_of_le ((h3 o ho).2.1 b off e hl) hB, (h3 o ho).2.2⟩⟩
/-- Two fates that came in, in memory. -/
def Ft (w : World) (b : Nat) (k1 d1 t1 k2 d2 t2 : Int) : Prop := b + 2 ≤ w.heap.size ∧ w.heap[b]? = some (.cells #[.int .i64 k1, .int .i64 d1, .int .i64 t1] 39 (0, 0)) ∧ w.heap[b + 1]? = some (.cells #[.int .i64 k2, .int .i64 d2, .int .i64 t2] 39 (0, 0))
theorem Ft.new (w : World) (k1 d1 t1 k2 d2 t2 : Int) : Ft ((w.alloc (.cells #[.int .i64 k1, .int .i64 d1, .int .i64 t1] 39)).alloc (.cells #[.int .i64 k2, .int .i64 d2, .int .i64 t2] 39)) w.heap.size k1 d1 t1 k2 d2 t2 := by
  refine ⟨by simp, (blk_alloc' _ _ _ (by simp)).trans (heap_alloc_new w _), ?_⟩
  have := heap_alloc_new (w.alloc (.cells #[.int .i64 k1, .int .i64 d1, .int .i64 t1] 39)) (.cells #[.int .i64 k2, .int .i64 d2, .int .i64 t2] 39)
  rwa [show (w.alloc (.cells #[.int .i64 k1, .int .i64 d1, .int .i64 t1] 39)).heap.size = w.heap.size + 1 from by simp] at this
section
variable {w w' : World} {b B : Nat} {k1 d1 t1 k2 d2 t2 : Int}
theorem Ft.on (h : Ft w b k1 d1 t1 k2 d2 t2) (hb : Below B w w') (hB : b + 2 ≤ B) : Ft w' b k1 d1 t1 k2 d2 t2 :=
  ⟨by have := hb.size; have := h.1; omega, (hb.block b (by omega)).trans h.2.1, (hb.block (b + 1) (by omega)).trans h.2.2⟩
theorem Ft.one (h : Ft w b k1 d1 t1 k2 d2 t2) : w.cell? ⟨b, 0, none⟩ = some (.int .i64 k1) ∧ w.cell? ⟨b, 1, none⟩ = some (.int .i64 d1) ∧ w.cell? ⟨b, 2, none⟩ = some (.int .i64 t1) := by
  refine ⟨?_, ?_, ?_⟩ <;> (rw [Go.Joins.cell_of_block h.2.1]; rfl)
theorem Ft.two (h : Ft w b k1 d1 t1 k2 d2 t2) : w.cell? ⟨b + 1, 0, none⟩ = some (.int .i64 k2) ∧ w.cell? ⟨b + 1, 1, none⟩ = some (.int .i64 d2) ∧ w.cell? ⟨b + 1, 2, none⟩ = some (.int .i64 t2) := by
  refine ⟨?_, ?_, ?_⟩ <;> (rw [Go.Joins.cell_of_block h.2.2]; rfl)
end

/-- Told commits are copied into a row of its own. -/
theorem pz_copied {w : World} {B : Nat} {A C : Nat → Prop} {m c : Nat} {S : Dsk} {L : Lg} {cs : List Cm} {ps : List (Cm × Value)} (hpm : PM w B A m c S L 0) (hC : ∀ j, C j → B ≤ j ∧ j < w.heap.size) (hCA : ∀ j, C j → ¬ A j)
    (e0 : ps.map (·.1) = cs) (r3 : ∀ p ∈ ps, ∃ au lu cu, p.2 = .slice au lu cu ∧ Seq 3 Wr.cells w au lu cu p.1.ws ∧ (0 < lu → ∀ g o, au = some ⟨g, o, none⟩ → C g)) {w' : World} {v : Value} (hb : Below w.heap.size w w') (hr : w'.ownsRow 0 37 2 v ps.length (ps.flatMap cc)) (hv : ∀ g, v.ownBlock = some g → w.heap.size ≤ g) :
    Pz w' B (fun j => j < B ∨ C j) m c v ⟨L, S, cs, 0, 0, 0⟩ := by
  have hz := hb.size
  have hbw := hpm.bw
  refine ⟨⟨A, hpm.below hb, fun j hj => ⟨fun e => ?_, fun e => ?_⟩⟩, ⟨ps, e0, hr, fun p hp => ?_⟩, fun g e => ?_, fun j hj => ?_, fun j hj e => ?_⟩
  · have := hv j e; have := (hpm.lo j hj).2; omega
  · rcases e with e | e
    · have := (hpm.lo j hj).1; omega
    · exact hCA j e hj
  · obtain ⟨au, lu, cu, q0, q1, q2⟩ := r3 p hp
    exact ⟨au, lu, cu, q0, seq_same q1 hz (fun hl b off e2 => hb.block b (hC b (q2 hl b off e2)).2), fun hl g o e => .inr (q2 hl g o e)⟩
  · have := hv g e; omega
  · rcases hj with hj | hj
    · omega
    · have := (hC j hj).2; omega
  · have := hv j e
    rcases hj with hj | hj
    · omega
    · have := (hC j hj).2; omega
theorem cc_cell {ps : List (Cm × Value)} (h : ∀ p ∈ ps, ∃ au lu cu, p.2 = .slice au lu cu) : ∀ u ∈ ps.flatMap cc, u.oneCell' = true := fun u hu => by
  obtain ⟨p, hp, hu⟩ := List.mem_flatMap.1 hu
  obtain ⟨au, lu, cu, e⟩ := h p hp
  simp only [cc, List.mem_cons, List.not_mem_nil, or_false] at hu
  rcases hu with rfl | rfl
  · rfl
  · rw [e]; rfl

set_option maxRecDepth 100000 in
set_option maxHeartbeats 4000000 in
theorem walLasts_walk {B0 : Nat} (w0 : World) (hg : Gl B0 w0) (hB0 : B0 ≤ w0.heap.size) {sa : Option Addr} {sl sc : Nat} {os : List OpQ} (hs : Sq w0 w0.heap.size sa sl sc os) (cut : Int) (hc0 : -9223372036854775808 ≤ cut) (hc1 : cut ≤ 9223372036854775807) (k1 d1 t1 : Int) {ma : Option Addr} {ml mc : Nat} {os2 : List OpQ} (hm : Sq w0 w0.heap.size ma ml mc os2) (again : Int) (ha0 : -9223372036854775808 ≤ again) (ha1 : again ≤ 9223372036854775807) (k2 d2 t2 : Int) :
    Calls Tryz.prog 5 #[.slice sa sl sc, .int .i64 cut, .agg #[.int .i64 k1, .int .i64 d1, .int .i64 t1], .slice ma ml mc, .int .i64 again, .agg #[.int .i64 k2, .int .i64 d2, .int .i64 t2]] w0 fun e w' => e = .returned (.bool true) ∧ Below w0.heap.size w0 w' := by
  have HW0 : Below w0.heap.size w0 ((w0.alloc (.cells #[.int .i64 k1, .int .i64 d1, .int .i64 t1] 39)).alloc (.cells #[.int .i64 k2, .int .i64 d2, .int .i64 t2] 39)) := ((Below.refl _ _).alloc (Nat.le_refl _) _).alloc (by simp) _
  have hz0 : ((w0.alloc (.cells #[.int .i64 k1, .int .i64 d1, .int .i64 t1] 39)).alloc (.cells #[.int .i64 k2, .int .i64 d2, .int .i64 t2] 39)).heap.size = w0.heap.size + 2 := by simp
  have HF0 := Ft.new w0 k1 d1 t1 k2 d2 t2
  go_enter Tryz.func5, Tryz.ntmps5
  go_wp2_with fail
  generalize (w0.alloc (.cells #[.int .i64 k1, .int .i64 d1, .int .i64 t1] 39)).alloc (.cells #[.int .i64 k2, .int .i64 d2, .int .i64 t2] 39) = w at HW0 hz0 HF0 ⊢
  obtain ⟨B, hBe⟩ : ∃ B, B = w.heap.size := ⟨_, rfl⟩
  have HG : Hid (Gl B w) := hid8 ((hg.on (HW0.mono hB0)).up (by omega))
  have HS := hid8 ((hs.below HW0).up (B' := B) (by omega))
  have HM := hid8 ((hm.below HW0).up (B' := B) (by omega))
  have HFT := hid8 HF0
  have HBW := hid8 HW0
  have HSH := hid8 (shown8_any w HG.out (Nat.le_of_eq hBe))
  clear hg hs hm HW0 HF0
  refine HSH.out.mono ?_
  rintro e w1 ⟨rfl, hb1⟩
  have HB1 : Hid (Below B w w1) := hid8 (hb1.mono (by omega))
  have hz1 := hb1.size
  clear HSH hb1
  go_wp2_with fail
  refine (dv_new w1).mono ?_
  rintro e w2 ⟨d, rfl, hD, hb2⟩
  have hz2 := hb2.size
  have HB2 := hid8 (HB1.out.trans (hb2.mono (by omega)))
  have HOP := hid8 (open8_any (B := B) (Cs := []) (R := ⟨false, 0, []⟩) (M := 1) hD (fun j hj => by have := hj.1; omega) (by omega) (HG.out.on HB2.out) ⟨rfl, rfl⟩ (wl_new 1 (by decide) (by decide)) (fun x hx => by cases hx) rfl (by show (0 : Int) + 3 ≤ 65536; decide) (by decide) (by decide) (by decide))
  clear hD hb2 HB1
  go_wp2_with fail
  refine HOP.out.mono ?_
  rintro e w3 ⟨L, S, l, vc, A, C, rfl, hpm, hcr, hC, hA, hf, hdn, hPn, hok⟩
  have hz3 := hf.size
  have HB3 := hid8 (HB2.out.trans (hf.to (n := B) (fun k hk e => by have := e.1; omega) (by omega)))
  have HPM := hid8 hpm
  have HOK := hid8 hok
  obtain ⟨av, cv, rfl⟩ := hcr.len
  clear HOP hpm hok hcr hC hA hf HB2
  have hBz3 : B ≤ w3.heap.size := by omega
  go_upto_if 48 with fail
  go_cut [12] (fun b wc => b = .bool false ∧ (∃ A S1, PM wc B A l d S1 L 0 ∧ S1.P = S.P) ∧ Below B w wc)
  case first =>
    by_cases hcut : 0 ≤ cut
    · have hcd : decide (0 ≤ cut) = true := by simpa using hcut
      have hpk := pkn_bd cut 200 (by decide)
      have hno : ¬ cut < 0 := by omega
      go_wp2_with fail
      refine (pick8_any cut 200 hc0 hc1 (by decide) (by decide) w3).mono ?_
      rintro e w4 ⟨rfl, rfl⟩
      generalize pkn cut 200 = q at hpk ⊢
      go_wp2_with fail
      refine (pm_cutAt HPM.out _).mono ?_
      rintro e w5 ⟨rfl, hp5, hf5⟩
      have HB5 := hid8 (HB3.out.trans (HPM.out.bel hf5))
      have HP5 := hid8 hp5
      clear hp5 hf5
      go_wp2
      go_meet
      exact ⟨rfl, ⟨_, _, HP5.out, rfl⟩, HB5.out⟩
    · have hcd : decide (0 ≤ cut) = false := by simpa using hcut
      go_wp2
      go_meet
      exact ⟨rfl, ⟨_, _, HPM.out, rfl⟩, HB3.out⟩
  case rest =>
  obtain ⟨rfl, ⟨A1, S1, hpm1, hP1⟩, hb4⟩ := hcut
  obtain ⟨w4, hw4⟩ : ∃ x, x = wc := ⟨_, rfl⟩
  subst hw4
  have hz4 := hpm1.bw
  have hpz : Pz w4 B (fun j => j < B) l d (.slice none 0 0) ⟨L, S1, [], 0, 0, 0⟩ := ⟨⟨A1, hpm1, fun j hj => ⟨(fun e => by cases e), fun e => by have := (hpm1.lo j hj).1; omega⟩⟩, PuR.nil _ _, (fun g e => by cases e), fun j hj => by omega, fun j hj e => by cases e⟩
  have HPL := hid8 (plays_any hpz hz4 (fun j hj => hj) (HS.out.below hb4) (show 0 + 100 ≤ 1000000 by decide) rfl rfl (Nat.zero_le _))
  have HOK1 : Hid (Ok8 0 1 1 L S1 []) := hid8 (by have := HOK.out; unfold Ok8 at this ⊢; rw [hP1]; exact this)
  have HOK2 : Hid (Ok8 0 21 401 ((⟨L, S1, [], 0, 0, 0⟩ : Py).play (os.take 100)).L ((⟨L, S1, [], 0, 0, 0⟩ : Py).play (os.take 100)).S ((⟨L, S1, [], 0, 0, 0⟩ : Py).play (os.take 100)).put) := hid8 (by
    have hl : (os.take 100).length ≤ 100 := by rw [List.length_take]; omega
    exact (Ok8.play (os.take 100) (p := ⟨L, S1, [], 0, 0, 0⟩) (T := 1) (M := 1) HOK1.out (Nat.zero_le _) (by decide) (by omega)).mono (by decide) (by omega))
  have HPB : Hid (((⟨L, S1, [], 0, 0, 0⟩ : Py).play (os.take 100)).put.length ≤ 100) := hid8 (by
    have hl : (os.take 100).length ≤ 100 := by rw [List.length_take]; omega
    have := (play_bounds (os.take 100) ⟨L, S1, [], 0, 0, 0⟩).2.2.2
    simp only [List.length_nil] at this
    omega)
  have HB4 := hid8 hb4
  generalize (⟨L, S1, [], 0, 0, 0⟩ : Py).play (os.take 100) = p1 at HPL HOK2 HPB
  clear HPM HOK HOK1 HB3 hpm1 hP1 hpz hb4 hdn hPn HS
  go_wp2_with fail
  refine HPL.out.mono ?_
  rintro e w5 ⟨v1, rfl, hpz1, hb5⟩
  have HB5 := hid8 (HB4.out.trans hb5)
  obtain ⟨ao1, cap1, rfl, hcs1⟩ := hpz1.cs
  obtain ⟨A2, hpm2, hA2⟩ := hpz1.it
  have hz5 := hpm2.bw
  have HFL := hid8 (pmFlushed_any hpm2)
  have HCR := hid8 (pm_crash hpm2 k1 d1 t1)
  have HCS1 := hid8 hcs1
  obtain ⟨fa, fb, fc⟩ := (HFT.out.on HB5.out (by omega)).one
  obtain ⟨Cs, R, hwl, hCl, hch, ⟨r1, hpu⟩, hfl, hnx, hsy⟩ := HOK2.out.crash (by decide) k1 d1 t1
  have HPRE := hid8 (take_pre hpu)
  have HRB : Hid (R.cs.length ≤ 100) := hid8 (Nat.le_trans HPRE.out.2 HPB.out)
  clear HPL HB4 hb5 hpz1 hpm2 hA2 hcs1 HOK2 hpu HPB
  go_wp2_with fail
  refine HFL.out.mono ?_
  rintro e w6 ⟨rfl, rfl⟩
  clear HFL
  go_wp2_with fail
  refine HCR.out.mono ?_
  rintro e w7 ⟨c, rfl, hD, hb7⟩
  have hz7 := hb7.size
  have HB7 := hid8 (HB5.out.trans (hb7.mono hz5))
  have HCS7 := hid8 (HCS1.out.below hb7)
  have HOP := hid8 (open8_any (B := B) (M := 402) hD (fun j hj => by have := hj.1; omega) (by omega) (HG.out.on HB7.out) ⟨rfl, rfl⟩ hwl hsy hch (by show (0 : Int) + 3 ≤ 65536; decide) (by omega) (by omega) (by decide))
  clear HCR hD hb7 HCS1 HB5 hwl hsy hch fa fb fc
  go_wp2_with fail
  refine HOP.out.mono ?_
  rintro e w8 ⟨L2, S2, m, vt, A3, C3, rfl, hpm, hcr, hC, hA, hf, hdn, hPn, hok⟩
  have hz8 := hf.size
  have HB8 := hid8 (HB7.out.trans (hf.to (n := B) (fun k hk e => by have := e.1; omega) (by omega)))
  have HCS8 := hid8 (HCS7.out.keep hf.size (fun j hj hz => hf.block j hj (fun e => by have := e.1; omega)))
  have HPM := hid8 hpm
  have HOK := hid8 hok
  have HCROW := hid8 hcr
  have HC : Hid (∀ j, C3 j → w7.heap.size ≤ j ∧ j < w8.heap.size ∧ ¬ A3 j) := hid8 hC
  obtain ⟨at2, ct2, rfl, hct⟩ := hcr.read8
  have HBE := hid8 (begins8_any hct HCS8.out HPRE.out.1 HPRE.out.2)
  clear HOP hpm hok hcr hC hA hf HB7 HCS7 hct HCS8 HPRE
  go_wp2_with fail
  refine HBE.out.mono ?_
  rintro e w9 ⟨rfl, hb9⟩
  have hz9 := hb9.size
  have HB9 := hid8 (HB8.out.trans (hb9.mono (by omega)))
  have HPM9 := hid8 (HPM.out.below hb9)
  have HCROW9 := hid8 (HCROW.out.below hb9)
  have hlt : ¬ ((R.cs.length : Int) < (p1.L.done : Int)) := by omega
  have hn3 : S2.P.n = 3 := hPn
  clear HBE hb9 HB8 HPM HCROW hPn
  have hBz9 : B ≤ w9.heap.size := by omega
  go_upto_if 88 with fail
  go_cut [12] (fun b wc => b = .bool false ∧ (∃ A S3, PM wc B A m c S3 L2 0 ∧ S3.P = S2.P ∧ ∀ j, C3 j → ¬ A j) ∧ CRow wc C3 (.slice at2 R.cs.length ct2) R.cs ∧ (∀ j, C3 j → B ≤ j ∧ j < wc.heap.size) ∧ Below B w wc)
  case first =>
    by_cases hag : 0 ≤ again
    · have hcd : decide (0 ≤ again) = true := by simpa using hag
      have hpk := pkn_bd again 100 (by decide)
      have hno : ¬ again < 0 := by omega
      have HOS := hid8 (pm_ops HPM9.out)
      rw [hn3] at HOS
      go_wp2_with fail
      refine HOS.out.mono ?_
      rintro e wa ⟨rfl, rfl⟩
      clear HOS
      go_wp2_with fail
      refine (pick8_any again 100 ha0 ha1 (by decide) (by decide) wa).mono ?_
      rintro e wb ⟨rfl, rfl⟩
      generalize pkn again 100 = q at hpk ⊢
      go_wp2_with fail
      refine (pm_cutAt HPM9.out _).mono ?_
      rintro e wd ⟨rfl, hpd, hfd⟩
      have HBd := hid8 (HB9.out.trans (HPM9.out.bel hfd))
      have HPd := hid8 hpd
      have HCd := hid8 (HCROW9.out.same (w' := wd) (fun j hj => by
        have := HC.out j hj
        exact hfd.block j (by omega) this.2.2))
      have hzd := hfd.size
      clear hpd hfd
      go_wp2
      go_meet
      refine ⟨rfl, ⟨_, _, HPd.out, rfl, fun j hj k => ?_⟩, HCd.out, fun j hj => ?_, HBd.out⟩
      · have := HC.out j hj
        rcases k with k | k
        · exact this.2.2 k
        · have := k.1; omega
      · have := HC.out j hj
        omega
    · have hcd : decide (0 ≤ again) = false := by simpa using hag
      go_wp2
      go_meet
      refine ⟨rfl, ⟨_, _, HPM9.out, rfl, fun j hj => (HC.out j hj).2.2⟩, HCROW9.out, fun j hj => ?_, HB9.out⟩
      have := HC.out j hj
      omega
  case rest =>
  obtain ⟨rfl, ⟨A4, S3, hpm4, hP4, hCA⟩, hcr4, hC4, hb10⟩ := hcut
  obtain ⟨w10, hw10⟩ : ∃ x, x = wc := ⟨_, rfl⟩
  subst hw10
  obtain ⟨i0, hi, hi0, hi1, hi2⟩ := info_parts infoC
  have hz10 := hpm4.bw
  have HOK1 : Hid (Ok8 R.cs.length (Cs.length + 1) 402 L2 S3 R.cs) := hid8 (by have := HOK.out; unfold Ok8 at this ⊢; rw [hP4]; exact this)
  obtain ⟨ps, e0, r1, r3, r4⟩ := hcr4.parts
  have epl : ps.length = R.cs.length := by rw [← e0, List.length_map]
  have HKEY := hid8 (fun (w' : World) (v : Value) => pz_copied (w' := w') (v := v) hpm4 hC4 hCA e0 r3)
  have HR1 := hid8 r1
  have HCC := hid8 (cc_cell (ps := ps) (fun p hp => by obtain ⟨a, b, c', e, -⟩ := r3 p hp; exact ⟨a, b, c', e⟩))
  have HB10 := hid8 hb10
  have HPB10 := hid8 hb10
  have HL4 := hid8 hpm4
  have hrb := HRB.out
  clear HB9 HPM9 HCROW9 HC HOK hP4 hcr4 r1 r3 r4 hC4 hCA hpm4 hb10 e0
  go_upto_region 17 with fail
  go_cut [18] (fun v wc => Pz wc B (fun j => j < B ∨ C3 j) m c v ((⟨L2, S3, R.cs, 0, 0, 0⟩ : Py).play (os2.take 100)) ∧ Below B w wc)
  case first =>
    have bA : Below w10.heap.size w10 (w10.alloc (.cells #[] 37)) := (Below.refl _ _).alloc (Nat.le_refl _) _
    have zA : (w10.alloc (.cells #[] 37)).heap.size = w10.heap.size + 1 := by simp
    have EMP : Hid ((w10.alloc (.cells #[] 37)).ownsRow 0 37 2 (.slice (some ⟨w10.heap.size, 0, none⟩) 0 0) 0 []) := hid8 ⟨rfl, .inr ⟨w10.heap.size, 0, #[], rfl, Nat.zero_le _, heap_alloc_new w10 _, Nat.le_refl _, Nat.zero_le _, rfl, rfl⟩⟩
    have HPLAY : Hid (∀ (u : World) (v : Value), Pz u B (fun j => j < B ∨ C3 j) m c v ⟨L2, S3, R.cs, 0, 0, 0⟩ → B ≤ u.heap.size → Below B w u → Calls Tryz.prog 20 #[.pointer (some ⟨m, 0, none⟩), .slice ma ml mc, v] u fun e w' => ∃ v', e = .returned v' ∧ Pz w' B (fun j => j < B ∨ C3 j) m c v' ((⟨L2, S3, R.cs, 0, 0, 0⟩ : Py).play (os2.take 100)) ∧ Below B u w') := hid8 (fun u v hp hB hb => plays_any hp hB (fun j hj => .inl hj) (HM.out.below hb) (show 0 + 100 ≤ 1000000 by decide) rfl rfl (by show R.cs.length ≤ 1000000; omega))
    have BA := hid8 bA
    clear bA
    cases at2 with
    | none =>
      have hl0 : R.cs.length = 0 ∧ ct2 = 0 ∧ ps = [] := by
        rcases HR1.out.2 with ⟨e, e1⟩ | ⟨g, cap, cur, e, -⟩
        · injection e with e2 e3 e4
          exact ⟨e3, e4, List.eq_nil_of_length_eq_zero e1⟩
        · injection e with e2 e3 e4
          cases e2
      obtain ⟨q1, rfl, rfl⟩ := hl0
      have Q1 := hid8 q1
      clear q1
      go_wp2_with (first | (at_builtin; refine Hid.out ?_) | fail)
      refine hid8 ?_
      refine wpList_append_own_none rfl _ _ 45 rfl 0 37 i0 2 Tryz.underlying45 hi (.slice (some ⟨w10.heap.size, 0, none⟩) 0 0) _ _ rfl EMP.out (congrArg (fun n => Value.slice none n 0) Q1.out) ?_
      have HPZ := hid8 (HKEY.out _ _ BA.out EMP.out (fun g e => by cases e; exact Nat.le_refl _))
      have HBA := hid8 (HB10.out.trans (BA.out.mono hz10))
      have HPP := hid8 (HPLAY.out _ _ HPZ.out (by omega) HBA.out)
      clear HKEY EMP HPZ HR1 HCC
      go_wp2_with fail
      refine HPP.out.mono ?_
      rintro e we ⟨v', rfl, hpe, hbe⟩
      have HPE := hid8 hpe
      have HBE := hid8 (HBA.out.trans hbe)
      clear hpe hbe HPP
      go_wp2
      go_meet
      exact ⟨HPE.out, HBE.out⟩
    | some ad =>
      obtain ⟨g, rfl⟩ : ∃ g, ad = ⟨g, 0, none⟩ := by
        rcases HR1.out.2 with ⟨e, e1⟩ | ⟨g, cap, cur, e, -⟩
        · injection e with e2 e3 e4
          cases e2
        · injection e with e2 e3 e4
          cases e2; exact ⟨g, rfl⟩
      have HNW := hid8 (World.ownsRow.cells (HR1.out.alloc (.cells #[] 37)) (g := g) rfl)
      have hll : (ps.flatMap cc).length = R.cs.length * 2 := by rw [HR1.out.1, epl]
      go_wp2_with (first | (at_builtin; refine Hid.out ?_) | fail)
      refine hid8 ?_
      refine wpList_append_own_at _ rfl _ _ 45 rfl 0 37 i0 (.agg #[.int .i64 0, .slice none 0 0]) 2 32 Tryz.underlying45 hi hi0 hi1 hi2 rfl (by decide) (.slice (some ⟨w10.heap.size, 0, none⟩) 0 0) _ _ rfl EMP.out ⟨g, 0, none⟩ R.cs.length ct2 (ps.flatMap cc) rfl hll HNW.out HCC.out (by unfold maxLen; omega) (by omega) (Nat.zero_le _) ?_
      intro v' w3 hown hgrow _ hat
      rw [Nat.zero_add, List.nil_append, ← epl] at hown
      have hbw3 : Below w10.heap.size w10 w3 := BA.out.trans ⟨hgrow.os, hgrow.tape, hgrow.output, hgrow.size, fun k hk => hgrow.block k (by omega) (by simp [Value.ownBlock]; omega)⟩
      have HPZ := hid8 (HKEY.out w3 v' hbw3 hown (fun g e => by
        rcases hat with q | q
        · rw [q] at e; cases e; exact Nat.le_refl _
        · rw [q] at e; simp only [Option.some.injEq] at e; omega))
      have HBA := hid8 (HB10.out.trans (hbw3.mono hz10))
      have hz3' := hbw3.size
      have HPP := hid8 (HPLAY.out _ _ HPZ.out (by omega) HBA.out)
      clear HKEY EMP HPZ HR1 HCC HNW hown hgrow hat hbw3
      go_wp2_with fail
      refine HPP.out.mono ?_
      rintro e we ⟨v2, rfl, hpe, hbe⟩
      have HPE := hid8 hpe
      have HBE := hid8 (HBA.out.trans hbe)
      clear hpe hbe HPP
      go_wp2
      go_meet
      exact ⟨HPE.out, HBE.out⟩
  case rest =>
  obtain ⟨hpz2, hb11⟩ := hcut
  obtain ⟨w11, hw11⟩ : ∃ x, x = wc := ⟨_, rfl⟩
  subst hw11
  have HOK2 : Hid (Ok8 R.cs.length 42 802 ((⟨L2, S3, R.cs, 0, 0, 0⟩ : Py).play (os2.take 100)).L ((⟨L2, S3, R.cs, 0, 0, 0⟩ : Py).play (os2.take 100)).S ((⟨L2, S3, R.cs, 0, 0, 0⟩ : Py).play (os2.take 100)).put) := hid8 (by
    have hl : (os2.take 100).length ≤ 100 := by rw [List.length_take]; omega
    exact (Ok8.play (os2.take 100) (p := ⟨L2, S3, R.cs, 0, 0, 0⟩) (T := Cs.length + 1) (M := 402) HOK1.out (Nat.zero_le _) (by omega) (by omega)).mono (by omega) (by omega))
  generalize (⟨L2, S3, R.cs, 0, 0, 0⟩ : Py).play (os2.take 100) = p2 at hpz2 HOK2
  obtain ⟨ao2, cap2, rfl, hcs2⟩ := hpz2.cs
  obtain ⟨A5, hpm5, hA5⟩ := hpz2.it
  have hz11 := hpm5.bw
  have hd1 := hpm5.ok.n
  have hd2 := hpm5.ok.big
  have HFL := hid8 (pmFlushed_any hpm5)
  have HCR := hid8 (pm_crash hpm5 k2 d2 t2)
  have HCS2 := hid8 hcs2
  have HB11 := hid8 hb11
  obtain ⟨fa, fb, fc⟩ := (HFT.out.on HB11.out (by omega)).two
  obtain ⟨Cs2, R2, hwl, hCl2, hch, ⟨r2, hpu⟩, hfl2, hnx2, hsy⟩ := HOK2.out.crash (by decide) k2 d2 t2
  have HPRE := hid8 (take_pre hpu)
  clear HOK1 HKEY HR1 HCC HB10 HPB10 HL4 hpz2 hcs2 hpm5 hA5 hb11 HOK2 hpu
  go_wp2_with fail
  refine HFL.out.mono ?_
  rintro e w12 ⟨rfl, rfl⟩
  clear HFL
  go_wp2_with fail
  refine HCR.out.mono ?_
  rintro e w13 ⟨c2, rfl, hD, hb13⟩
  have hz13 := hb13.size
  have HB13 := hid8 (HB11.out.trans (hb13.mono hz11))
  have HCS13 := hid8 (HCS2.out.below hb13)
  have HOP := hid8 (open8_any (B := B) (M := 803) hD (fun j hj => by have := hj.1; omega) (by omega) (HG.out.on HB13.out) ⟨rfl, rfl⟩ hwl hsy hch (by show (0 : Int) + 3 ≤ 65536; decide) (by omega) (by omega) (by decide))
  clear HCR hD hb13 HCS2 HB11 hwl hsy hch fa fb fc
  go_wp2_with fail
  refine HOP.out.mono ?_
  rintro e w14 ⟨L3, S4, x, va, A6, C6, rfl, hpm, hcr, hC, hA, hf, hdn3, hPn3, hok⟩
  have HB14 := hid8 (HB13.out.trans (hf.to (n := B) (fun k hk e => by have := e.1; omega) (by omega)))
  have HCS14 := hid8 (HCS13.out.keep hf.size (fun j hj hz => hf.block j hj (fun e => by have := e.1; omega)))
  have hz14 := hf.size
  obtain ⟨at3, ct3, rfl, hct⟩ := hcr.read8
  have HBE := hid8 (begins8_any hct HCS14.out HPRE.out.1 HPRE.out.2)
  clear HOP hpm hok hcr hC hA hf HB13 HCS13 hct HCS14 HPRE
  go_wp2_with fail
  refine HBE.out.mono ?_
  rintro e w15 ⟨rfl, hb15⟩
  have HB15 := hid8 (HB14.out.trans (hb15.mono (by omega)))
  have hge : ((R.cs.length : Int) + (p2.L.done : Int)) ≤ (R2.cs.length : Int) := by omega
  clear HBE hb15 HB14
  go_wp2
  go_ret
  refine ⟨ret8 ?_, HBW.out.trans (HB15.out.mono (by omega))⟩
  simp [hge]
end Go.Proofs.YtgifcgniphncdaaGreatDoor

/-
  How scripts and fates that came in are opened.
-/
set_option linter.unusedVariables false
set_option linter.unusedSimpArgs false
namespace Go.Proofs.YtgifcgniphncdaaGreatDoor
open Go.RowKit Go.ChangeShapes Go.WideShapes Go.ChangeAt

theorem cells8Op : Tryz.prog.cellsOf 42 = 9 := by kernel_rfl
theorem cells8Int : Tryz.prog.cellsOf 3 = 1 := by kernel_rfl
theorem cells8I64 : Tryz.prog.cellsOf 2 = 1 := by kernel_rfl
theorem cells8Str : Tryz.prog.cellsOf 9 = 1 := by kernel_rfl
theorem cells8Bool : Tryz.prog.cellsOf 4 = 1 := by kernel_rfl
theorem cells8Byt : Tryz.prog.cellsOf 40 = 1 := by kernel_rfl
theorem cells8Fate : Tryz.prog.cellsOf 39 = 3 := by kernel_rfl
theorem cells8Com : Tryz.prog.cellsOf 37 = 2 := by kernel_rfl
theorem cells8Wr : Tryz.prog.cellsOf 85 = 3 := by kernel_rfl
theorem cells8Ws : Tryz.prog.cellsOf 35 = 1 := by kernel_rfl
section
variable {H : Type} {enc : TypeId × Value → H} {W : World} {base : Nat} {v : Value} {d : DataW H} {p : List MemPlace}
set_option maxRecDepth 100000 in
theorem write8_of {n : Nat} {cs : List Value} {y : DataW H × List MemPlace} (hl : cs.length = 3) (ht : DataW.trod enc Tryz.prog W 0 (fun _ => true) true n 85 cs = some y) : ∃ o : Wr, True ∧ cs = o.cells := by
  obtain ⟨xs, m, _, _, _, hxl, hfs⟩ := DataW.trod_struct Tryz.underlying85 ht
  have hx3 : xs.length = 3 := hxl
  match cs, hl with
  | [c0, c1, c2], _ =>
    obtain ⟨y0, e0⟩ := some_at hx3 (i := 0) (by omega)
    obtain ⟨y1, e1⟩ := some_at hx3 (i := 1) (by omega)
    obtain ⟨y2, e2⟩ := some_at hx3 (i := 2) (by omega)
    have h0 := (field_at hfs 0 9 0 _ cells8Str rfl).trans e0
    have h1 := (field_at hfs 1 9 1 _ cells8Str rfl).trans e1
    have h2 := (field_at hfs 2 4 2 _ cells8Bool rfl).trans e2
    dsimp only [List.drop, List.take] at h0 h1 h2
    obtain ⟨k0, q0, _, _⟩ := DataW.trod_string Tryz.underlying9 h0
    obtain ⟨k1, q1, _, _⟩ := DataW.trod_string Tryz.underlying9 h1
    obtain ⟨k2, q2, _⟩ := DataW.trod_bool Tryz.underlying4 h2
    simp only [List.cons.injEq, and_true] at q0 q1 q2
    subst q0 q1 q2
    exact ⟨⟨k0, k1, k2⟩, trivial, rfl⟩
def OpQ.ok (W : World) (o : OpQ) : Prop := Seq 3 Wr.cells W o.au o.lu o.cu o.ws ∧ -9223372036854775808 ≤ o.kind ∧ o.kind ≤ 9223372036854775807
theorem slice_of {t e : TypeId} (ht : Tryz.prog.underlying t = some (.slice e)) {n : Nat} {c : Value} {y : DataW H × List MemPlace} (h : DataW.trod enc Tryz.prog W 0 (fun _ => true) true n t [c] = some y) : ∃ a l c', c = .slice a l c' := by
  rcases DataW.trod_slice ht h with ⟨e, _⟩ | ⟨a, l, c, _, _, _, _, e, _⟩
  · exact ⟨none, 0, 0, by simpa using e⟩
  · exact ⟨some a, l, c, by simpa using e⟩
set_option maxRecDepth 100000 in
theorem op8_of {n : Nat} {cs : List Value} {y : DataW H × List MemPlace} (hl : cs.length = 9) (ht : DataW.trod enc Tryz.prog W 0 (fun _ => true) true n 42 cs = some y) : ∃ o : OpQ, o.ok W ∧ cs = o.cells := by
  obtain ⟨xs, m, _, _, _, hxl, hfs⟩ := DataW.trod_struct Tryz.underlying42 ht
  have hx6 : xs.length = 6 := hxl
  match cs, hl with
  | [c0, c1, c2, c3, c4, c5, c6, c7, c8], _ =>
    obtain ⟨y0, e0⟩ := some_at hx6 (i := 0) (by omega)
    obtain ⟨y1, e1⟩ := some_at hx6 (i := 1) (by omega)
    obtain ⟨y2, e2⟩ := some_at hx6 (i := 2) (by omega)
    obtain ⟨y3, e3⟩ := some_at hx6 (i := 3) (by omega)
    obtain ⟨y4, e4⟩ := some_at hx6 (i := 4) (by omega)
    obtain ⟨y5, e5⟩ := some_at hx6 (i := 5) (by omega)
    have h0 := (field_at hfs 0 3 0 _ cells8Int rfl).trans e0
    have h1 := (field_at hfs 1 37 1 _ cells8Com rfl).trans e1
    have h2 := (field_at hfs 2 3 3 _ cells8Int rfl).trans e2
    have h3 := (field_at hfs 3 3 4 _ cells8Int rfl).trans e3
    have h4 := (field_at hfs 4 39 5 _ cells8Fate rfl).trans e4
    have h5 := (field_at hfs 5 40 8 _ cells8Byt rfl).trans e5
    dsimp only [List.drop, List.take] at h0 h1 h2 h3 h4 h5
    obtain ⟨k0, q0, _, w0⟩ := DataW.trod_int Tryz.underlying3 h0
    obtain ⟨k2, q2, _, _⟩ := DataW.trod_int Tryz.underlying3 h2
    obtain ⟨k3, q3, _, _⟩ := DataW.trod_int Tryz.underlying3 h3
    obtain ⟨us, m1, _, _, _, hul, hus⟩ := DataW.trod_struct Tryz.underlying37 h1
    have hu2 : us.length = 2 := hul
    obtain ⟨u0, f0⟩ := some_at hu2 (i := 0) (by omega)
    obtain ⟨u1, f1⟩ := some_at hu2 (i := 1) (by omega)
    have g0 := (field_at hus 0 2 0 _ cells8I64 rfl).trans f0
    have g1 := (field_at hus 1 35 1 _ cells8Ws rfl).trans f1
    dsimp only [List.drop, List.take] at g0 g1
    obtain ⟨k1, q1, _, _⟩ := DataW.trod_int Tryz.underlying2 g0
    obtain ⟨au, lu, cu, qs⟩ := slice_of Tryz.underlying35 g1
    subst qs
    obtain ⟨ws, _, hs, _⟩ := open_seq (enc := enc) (W := W) Wr.cells (fun _ => True) Tryz.underlying35 cells8Wr (by decide) (fun _ _ => rfl) (fun m cs y hl hy => write8_of hl hy) (⟨_, g1⟩ : DataW.Trod enc Tryz.prog W 0 (fun _ => true) true 35 (.slice au lu cu) _ _)
    obtain ⟨zs, m2, _, _, _, hzl, hzs⟩ := DataW.trod_struct Tryz.underlying39 h4
    have hz3 : zs.length = 3 := hzl
    obtain ⟨z0, r0⟩ := some_at hz3 (i := 0) (by omega)
    obtain ⟨z1, r1⟩ := some_at hz3 (i := 1) (by omega)
    obtain ⟨z2, r2⟩ := some_at hz3 (i := 2) (by omega)
    have s0 := (field_at hzs 0 3 0 _ cells8Int rfl).trans r0
    have s1 := (field_at hzs 1 3 1 _ cells8Int rfl).trans r1
    have s2 := (field_at hzs 2 3 2 _ cells8Int rfl).trans r2
    dsimp only [List.drop, List.take] at s0 s1 s2
    obtain ⟨k5, q5, _, _⟩ := DataW.trod_int Tryz.underlying3 s0
    obtain ⟨k6, q6, _, _⟩ := DataW.trod_int Tryz.underlying3 s1
    obtain ⟨k7, q7, _, _⟩ := DataW.trod_int Tryz.underlying3 s2
    obtain ⟨ar, lr, cr, qr⟩ := slice_of Tryz.underlying40 h5
    subst qr
    have b0 := bounds_i64 w0
    simp only [List.cons.injEq, and_true] at q0 q1 q2 q3 q5 q6 q7
    subst q0 q1 q2 q3 q5 q6 q7
    exact ⟨⟨k0, k1, ws, au, lu, cu, k2, k3, k5, k6, k7, ar, lr, cr⟩, ⟨hs, b0.1, b0.2⟩, rfl⟩
theorem seq_lt {α : Type} {k : Nat} {f : α → List Value} {a : Option Addr} {l c : Nat} {xs : List α} (h : Seq k f W a l c xs) : ∀ b off, a = some ⟨b, off, none⟩ → 0 < l → b < W.heap.size := fun b off e hl => by
  obtain ⟨b', off', e', hlt, _⟩ := h.2.2.2 hl
  rw [e] at e'
  cases e'
  exact hlt
theorem open_script8 {a : Option Addr} {len cap : Nat} (h : DataW.Trod enc Tryz.prog W 0 (fun _ => true) true 22 (.slice a len cap) d p) : ∃ os, Sq W W.heap.size a len cap os := by
  obtain ⟨os, h1, h2, _⟩ := open_seq (enc := enc) (W := W) OpQ.cells (OpQ.ok W) Tryz.underlying22 cells8Op (by decide) (fun _ _ => rfl) (fun m cs y hl hy => op8_of hl hy) h
  exact ⟨os, h2, seq_lt h2, fun o ho => ⟨(h1 o ho).1, seq_lt (h1 o ho).1, (h1 o ho).2⟩⟩
set_option maxRecDepth 100000 in
theorem open_fate8 (hv : Value.okWide Tryz.prog W .any base 39 v) (h : DataW.Trod enc Tryz.prog W 0 (fun _ => true) true 39 v d p) :
    ∃ a b c : Int, v = .agg #[.int .i64 a, .int .i64 b, .int .i64 c] := by
  have hv2 : ∃ cs, v = .agg cs ∧ cs.size = Tryz.prog.cellsOf 39 := by
    unfold Value.okWide at hv
    rw [Tryz.underlying39] at hv
    obtain ⟨cs, h1, h2, _⟩ := hv
    exact ⟨cs, h1, h2⟩
  obtain ⟨cs, rfl, hsz⟩ := hv2
  obtain ⟨fuel, hf⟩ := h
  obtain ⟨zs, m, _, _, hl, hzl, hgs⟩ := DataW.trod_struct Tryz.underlying39 hf
  have hzl3 : zs.length = 3 := hzl
  rw [cells8Fate] at hsz
  obtain ⟨l, rfl⟩ : ∃ l : List Value, cs = l.toArray := ⟨cs.toList, by simp⟩
  have hl3 : l.length = 3 := by simpa using hsz
  match l, hl3 with
  | [c0, c1, c2], _ =>
    obtain ⟨z0, f0⟩ := some_at hzl3 (i := 0) (by omega)
    obtain ⟨z1, f1⟩ := some_at hzl3 (i := 1) (by omega)
    obtain ⟨z2, f2⟩ := some_at hzl3 (i := 2) (by omega)
    have g0 := (field_at hgs 0 3 0 _ cells8Int rfl).trans f0
    have g1 := (field_at hgs 1 3 1 _ cells8Int rfl).trans f1
    have g2 := (field_at hgs 2 3 2 _ cells8Int rfl).trans f2
    simp only [Value.cells, List.drop, List.take] at g0 g1 g2
    obtain ⟨k0, q0, _, _⟩ := DataW.trod_int Tryz.underlying3 g0
    obtain ⟨k1, q1, _, _⟩ := DataW.trod_int Tryz.underlying3 g1
    obtain ⟨k2, q2, _, _⟩ := DataW.trod_int Tryz.underlying3 g2
    simp only [List.cons.injEq, and_true] at q0 q1 q2
    subst q0 q1 q2
    exact ⟨k0, k1, k2, rfl⟩
end
end Go.Proofs.YtgifcgniphncdaaGreatDoor
