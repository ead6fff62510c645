/-
  Open.
-/
import Derived.Test.YtgifcgniphncdaaGreatDoorNa29
import Derived.Test.YtgifcgniphncdaaGreatDoorNa34
import Derived.Test.YtgifcgniphncdaaGreatDoorNa35
import Derived.Test.YtgifcgniphncdaaGreatDoorNa36
import Derived.Test.YtgifcgniphncdaaGreatDoorNa38
set_option linter.unusedVariables false
set_option linter.unusedSimpArgs false
namespace Go.Proofs.YtgifcgniphncdaaGreatDoor
open Go.RowKit Go.Maps

/-- What Open answers, and leaves. -/
def OpL (w w' : World) (B : Nat) (D : Nat → Prop) (d : Nat) (S : Dsk) (first : Int) (e : Ending) : Prop :=
  ∃ er x S', OpenR S first er x S' ∧ Fr D w w' ∧
    ((x = none ∧ e = .returned (.tuple #[.pointer none, .slice none 0 0, .int .i64 er]) ∧ DV w' (Land.more D w w') d S') ∨
    ∃ L cs l vc A C, x = some (L, cs) ∧ e = .returned (.tuple #[.pointer (some ⟨l, 0, none⟩), vc, .int .i64 er]) ∧ PM w' B A l d S' L 0 ∧ CRow w' C vc cs ∧ (∀ j, A j → Land.more D w w' j) ∧ (∀ j, C j → w.heap.size ≤ j ∧ j < w'.heap.size ∧ ¬ A j))
theorem gap_eq (P : PD) (first : Int) : gap P first = (segs P).any (gapP first (segs P)) := rfl
theorem DV.up {w w' : World} {D : Nat → Prop} {d : Nat} {S : Dsk} (h : DV w D d S) (hb : Below w.heap.size w w') : DV w' (Land.more D w w') d S := (h.below hb).mono (fun j hj => .inl hj) (more_lt h.lt hb.size)

section
variable {w : World} {B : Nat} {D : Nat → Prop} {d : Nat} {S : Dsk}
set_option maxRecDepth 100000 in
theorem open_arg (hD : DV w D d S) (first : Int) (h : first < 1 ∨ 1073741824 < first) :
    Calls Tryz.prog 17 #[.pointer (some ⟨d, 0, none⟩), .int .i64 first] w fun e w' => OpL w w' B D d S first e := by
  have HR : Hid (OpL w w B D d S first (.returned (.tuple #[.pointer none, .slice none 0 0, .int .i64 2]))) := hid8 ⟨2, none, S, .arg h, Fr.refl _ _, .inl ⟨rfl, rfl, hD.up (Below.refl _ _)⟩⟩
  clear hD
  rcases h with h | h
  · have h1 : decide (first < 1) = true := by simpa using h
    go_enter Tryz.func17, Tryz.ntmps17
    go_wp2
    try simp only [Exit.inBlock, Exit.then]
    refine bodyPost_ret (results_tmp3 rfl _ _ _) rfl ?_
    exact HR.out
  · have h1 : decide (first < 1) = false := by simp; omega
    have h2 : decide (1073741824 < first) = true := by simpa using h
    go_enter Tryz.func17, Tryz.ntmps17
    go_wp2
    try simp only [Exit.inBlock, Exit.then]
    refine bodyPost_ret (results_tmp3 rfl _ _ _) rfl ?_
    exact HR.out
set_option maxRecDepth 100000 in
set_option maxHeartbeats 2000000 in
theorem open_off (hD : DV w D d S) (hB : B ≤ w.heap.size) (hg : Gl B w) (first : Int) (h0 : 1 ≤ first) (h1 : first ≤ 1073741824) (ho : S.o = true) :
    Calls Tryz.prog 17 #[.pointer (some ⟨d, 0, none⟩), .int .i64 first] w fun e w' => OpL w w' B D d S first e := by
  have d1 : decide (first < 1) = false := by simp; omega
  have d2 : decide (1073741824 < first) = false := by simp; omega
  have HN := hid8 (name_any hg first (by omega) (by omega))
  have HD := hid8 hD
  clear hD
  go_enter Tryz.func17, Tryz.ntmps17
  go_wp2_with fail
  refine HN.out.mono ?_
  rintro e w1 ⟨rfl, hb1⟩
  have HRd := hid8 (dv_read (HD.out.below hb1) (nm8 first) (nm8_max first (by omega) (by omega)))
  rw [ho] at HRd
  have hz1 := hb1.size
  have HB1 := hid8 hb1
  clear HN hb1
  go_wp2_with fail
  refine HRd.out.mono ?_
  rintro e w2 ⟨u, rfl, -, hb2⟩
  have HB2 := hid8 (HB1.out.trans (hb2.mono hz1))
  clear HRd hb2 HB1
  simp only [if_true]
  go_wp2
  try simp only [Exit.inBlock, Exit.then]
  refine bodyPost_ret (results_tmp3 rfl _ _ _) rfl ?_
  exact ⟨24, none, S, .off h0 h1 ho, Fr.below HB2.out, .inl ⟨rfl, rfl, HD.out.up HB2.out⟩⟩
end
end Go.Proofs.YtgifcgniphncdaaGreatDoor

/-
  Open: the segments are read, one behind the other; another one is begun.
-/
set_option linter.unusedVariables false
set_option linter.unusedSimpArgs false
namespace Go.Proofs.YtgifcgniphncdaaGreatDoor
open Go.RowKit Go.Maps

section
variable {w : World} {B : Nat} {D : Nat → Prop} {d : Nat} {S : Dsk}
set_option maxRecDepth 100000 in
set_option maxHeartbeats 16000000 in
theorem open_on (hD : DV w D d S) (hDB : ∀ j, D j → B ≤ j) (hB : B ≤ w.heap.size) (hg : Gl B w) (first : Int) (h0 : 1 ≤ first) (h1 : first ≤ 1073741824) (ho : S.o = false) :
    Calls Tryz.prog 17 #[.pointer (some ⟨d, 0, none⟩), .int .i64 first] w fun e w' => OpL w w' B D d S first e := by
  have d1 : decide (first < 1) = false := by simp; omega
  have d2 : decide (1073741824 < first) = false := by simp; omega
  have HN := hid8 (name_any hg first (by omega) (by omega))
  have hinv := hD.inv
  have HLT := hid8 hD.lt
  have HD := hid8 hD
  have HG := hid8 hg
  have HDB := hid8 hDB
  have HSL := hid8 (segs_len hinv)
  have HSM : Hid (∀ n ∈ segs S.P, 1 ≤ n ∧ nm8 n ∈ Land.dnames S.P.now ∧ n < 1000000000000000000) := hid8 (fun n hn => segs_mem hinv hn)
  have HRN : Hid (∀ n ∈ segs S.P, (Land.pread S.P (nm8 n)).1 = 0 ∧ Byt (Land.pread S.P (nm8 n)).2 ∧ (Land.pread S.P (nm8 n)).2.length ≤ 262144) := hid8 (fun n hn => read_name hinv (segs_mem hinv hn).2.1)
  have hcode := pread_code S.P (nm8 first)
  have hpn := hinv.lo
  clear hD hg hDB
  go_enter Tryz.func17, Tryz.ntmps17
  go_wp2_with fail
  refine HN.out.mono ?_
  rintro e w1 ⟨rfl, hb1⟩
  have HRd := hid8 (dv_read (HD.out.below hb1) (nm8 first) (nm8_max first (by omega) (by omega)))
  rw [ho] at HRd
  simp only [Bool.false_eq_true, if_false] at HRd
  have hz1 := hb1.size
  have HB1 := hid8 hb1
  clear HN hb1
  go_wp2_with fail
  refine HRd.out.mono ?_
  rintro e w2 ⟨u, rfl, -, hb2⟩
  have hz2 := hb2.size
  have HB2 := hid8 (HB1.out.trans (hb2.mono hz1))
  have HSO := hid8 (segmentsOn_any (HD.out.below HB2.out) (HG.out.on (HB2.out.mono hB)) (by omega))
  clear HRd hb2 HB1
  generalize (Land.pread S.P (nm8 first)).1 = code at *
  have hcd : (code == 24) = false := by simpa using hcode
  have hcd2 : ¬ code = 24 := hcode
  clear hcode
  go_wp2_with fail
  refine HSO.out.mono ?_
  rintro e w3 ⟨v3, rfl, hr3, hb3⟩
  obtain ⟨at3, ct3, rfl, hsq, hlo3⟩ := hr3.seq
  have hz3 := hb3.size
  have HB3 := hid8 (HB2.out.trans (hb3.mono (by omega)))
  have HGP := hid8 (hasGap_any first hsq (fun n hn => by have := HSM.out n hn; omega))
  rw [← gap_eq] at HGP
  have HSQ := hid8 hsq
  have hsl := HSL.out
  clear HSO hb3 HB2 hr3 hsq hlo3
  go_wp2_with fail
  refine HGP.out.mono ?_
  rintro e w4 ⟨rfl, hb4⟩
  have hz4 := hb4.size
  have HB4 := hid8 (HB3.out.trans (hb4.mono (by omega)))
  have HSQ4 := hid8 (HSQ.out.keep hb4)
  clear HGP hb4 HB3 HSQ
  generalize hns : (segs S.P).length = nl at *
  cases hgap : gap S.P first with
  | true =>
    go_wp2
    go_ret3
    exact ⟨81, none, S, .gap h0 h1 ho hgap, Fr.below HB4.out, .inl ⟨rfl, rfl, HD.out.up HB4.out⟩⟩
  | false =>
    have HGF := hid8 hgap
    have hzl : w.heap.size ≤ w4.heap.size := HB4.out.size
    have m5 : Rm (w4.alloc (.cells #[.bool false, .int .u64 0, .slice none 0 0] 97)) w4.heap.size (.slice none 0 0) ⟨false, 0, []⟩ := heap_alloc_new w4 _
    have b5 : Below w4.heap.size w4 (w4.alloc (.cells #[.bool false, .int .u64 0, .slice none 0 0] 97)) := (Below.refl _ _).alloc (Nat.le_refl _) _
    have HM5 := hid8 m5
    have HB5 := hid8 b5
    have hgf : first ≤ first := Int.le_refl _
    have hup := upTo_le (segs S.P) first
    clear m5 b5 hgap
    go_wp2
    go_loopw [11, 12, 13] (fun i _ _ wr => ∃ (n : Int) (R : Rdr) (v : Value), i = .int .i64 n ∧ first ≤ n ∧ (n - first).toNat + upTo (segs S.P) n ≤ 64 ∧ R.next < 18446744073709551616 ∧ R.cs.length ≤ 10000 * (n - first).toNat ∧ Hid (∀ x, Rds S.P n R x → Rds S.P first ⟨false, 0, []⟩ x) ∧ Rm wr w4.heap.size v R ∧ CRow wr (fun j => w4.heap.size < j ∧ j < wr.heap.size) v R.cs ∧ Below w4.heap.size w4 wr) (fun i _ _ _ => upTo (segs S.P) (intOf i))
    case atStart => exact ⟨first, _, _, rfl, hgf, by omega, by decide, by simp, hid8 (fun x h => h), HM5.out, CRow.nil _ _, HB5.out⟩
    case round =>
      clear HM5 HB5
      obtain ⟨n, R, v, rfl, hfn, hcnt, hnx, hcs, hrd, hm, hc, hb⟩ := hrel
      have hsz := hb.size
      have hrl := hm.lt
      have hn64 : (n - first).toNat ≤ 64 := by omega
      have HSr := hid8 (HSQ4.out.keep hb)
      have HCn := hid8 (sContains_any HSr.out n)
      have HBw := hid8 (HB4.out.trans (hb.mono (by omega)))
      have HM := hid8 hm
      have HC := hid8 hc
      have HBr := hid8 hb
      obtain ⟨wR, hwR⟩ : ∃ x, x = wr := ⟨_, rfl⟩
      subst hwR
      clear hm hc hb
      by_cases hmem : n ∈ segs S.P
      · have hct : (segs S.P).contains n = true := by simpa using hmem
        rw [hct] at HCn
        have HNn := hid8 (name_any (HG.out.on (HBw.out.mono hB)) n (by omega) (by omega))
        obtain ⟨p1, p2, p3⟩ := HRN.out n hmem
        have hupn := upTo_next _ n hmem
        have hw : IntKind.i64.wrap (n + 1) = n + 1 := by rw [IntKind.wrap_i64]; omega
        have HMEM := hid8 hmem
        clear hct hmem
        go_wp2_with fail
        refine HCn.out.mono ?_
        rintro e wx ⟨rfl, rfl⟩
        clear HCn
        go_wp2_with fail
        refine HNn.out.mono ?_
        rintro e w6 ⟨rfl, hb6⟩
        have hz6 := hb6.size
        have HB6 := hid8 (HBw.out.trans (hb6.mono (by omega)))
        have HRd := hid8 (dv_read (HD.out.below HB6.out) (nm8 n) (nm8_max n (by omega) (by omega)))
        rw [ho] at HRd
        simp only [Bool.false_eq_true, if_false] at HRd
        rw [p1] at HRd
        have HM6 := hid8 (HM.out.below hb6)
        have HC6 := hid8 (HC.out.below hb6)
        have HBr6 := hid8 (HBr.out.trans (hb6.mono hsz))
        clear HNn hb6 HM HC HBr HBw
        go_wp2_with fail
        refine HRd.out.mono ?_
        rintro e w7 ⟨u, rfl, hO7, hb7⟩
        have hz7 := hb7.size
        obtain ⟨a7, c7, rfl, sl7, lo7⟩ := hO7.sl p2
        have HRR := hid8 (rread_any (A := fun j => w4.heap.size < j ∧ j < wx.heap.size) sl7 p3 (HM6.out.below hb7) hnx (HC6.out.below hb7) (by omega) (fun e => by have := e.1; omega) (fun j hj => by have := hj.2; omega) n (by omega) (by omega) (fun _ b off e k => by have := lo7 b off e; omega))
        have HB7 := hid8 (HB6.out.trans (hb7.mono (by omega)))
        have HBr7 := hid8 (HBr6.out.trans (hb7.mono (by omega)))
        clear HRd hb7 HM6 HC6 HBr6 HB6 hO7 sl7 lo7
        generalize hXL : (Land.pread S.P (nm8 n)).2.length = xl at *
        go_wp2_with fail
        refine HRR.out.mono ?_
        rintro e w8 ⟨hres, hf8⟩
        have hz8 := hf8.size
        have HBr8 := hid8 (HBr7.out.trans (hf8.to (n := w4.heap.size) (fun k hk e => by rcases e with e | e; have := e.1; omega; omega) (by omega)))
        have HB8 := hid8 (HB4.out.trans (HBr8.out.mono (by omega)))
        clear HRR hf8 HBr7 HB7
        rcases hres with ⟨R', v', hseg, rfl, hm8, hc8⟩ | ⟨hseg, rfl⟩
        · have hmo := segR_more p2 (by omega) hnx hseg
          have HM8 := hid8 hm8
          have HC8 := hid8 (hc8.mono (A' := fun j => w4.heap.size < j ∧ j < w8.heap.size) (fun j hj q => by
            rcases q with q | q
            · exact ⟨q.1, hj⟩
            · exact ⟨by have := q.1; omega, hj⟩))
          have HR8 : Hid (∀ x, Rds S.P (n + 1) R' x → Rds S.P first ⟨false, 0, []⟩ x) := hid8 (fun x h => hrd.out x (.go HMEM.out hseg h))
          clear hm8 hc8 hseg
          go_wp2
          go_roundw
          case rel => exact ⟨n + 1, R', v', rfl, by omega, by omega, hmo.1, by omega, HR8, HM8.out, HC8.out, HBr8.out⟩
          case measure =>
            show upTo (segs S.P) (intOf (.int .i64 _)) < upTo (segs S.P) n
            simp only [intOf]
            try rw [hw]
            omega
        · have HR8 : Hid (Rds S.P first ⟨false, 0, []⟩ none) := hid8 (hrd.out none (.bad HMEM.out hseg))
          clear hseg
          go_wp2
          go_ret3
          exact ⟨81, none, S, .bad h0 h1 ho HGF.out HR8.out, Fr.below HB8.out, .inl ⟨rfl, rfl, HD.out.up HB8.out⟩⟩
      · have hct : (segs S.P).contains n = false := by simpa using hmem
        rw [hct] at HCn
        have HRS : Hid (Rds S.P first ⟨false, 0, []⟩ (some (n, R))) := hid8 (hrd.out _ (.stop hmem))
        obtain ⟨t1, t2, t3⟩ := HM.out.cells
        have m6 : Lm (wR.alloc (.cells #[.pointer (some ⟨d, 0, none⟩), .int .i64 0, .int .u64 (R.next : Int), .slice none 0 0, .int .i64 0, .int .i64 0, .int .i64 0, .int .i64 0] 102)) wR.heap.size d (.slice none 0 0) ⟨0, R.next, [], 0, 0, 0, 0⟩ := heap_alloc_new wR _
        have b6 : Below wR.heap.size wR (wR.alloc (.cells #[.pointer (some ⟨d, 0, none⟩), .int .i64 0, .int .u64 (R.next : Int), .slice none 0 0, .int .i64 0, .int .i64 0, .int .i64 0, .int .i64 0] 102)) := (Below.refl _ _).alloc (Nat.le_refl _) _
        have z6 : (wR.alloc (.cells #[.pointer (some ⟨d, 0, none⟩), .int .i64 0, .int .u64 (R.next : Int), .slice none 0 0, .int .i64 0, .int .i64 0, .int .i64 0, .int .i64 0] 102)).heap.size = wR.heap.size + 1 := by simp
        have hzw := HBw.out.size
        have HB6 := hid8 (HBw.out.trans (b6.mono (by omega)))
        have hnD : ¬ D wR.heap.size := fun e => by have := HLT.out _ e; omega
        have HBG := hid8 (begin_any (HD.out.below HB6.out) m6 hnD (by omega) (by omega) HDB.out (HG.out.on (HB6.out.mono hB)) n (by omega) (by omega) hnx)
        have HM6 := hid8 (HM.out.below b6)
        have HC6 := hid8 (HC.out.below b6)
        clear hct hmem m6 HM HC HBr
        go_wp2_with fail
        refine HCn.out.mono ?_
        rintro e wx ⟨rfl, rfl⟩
        clear HCn
        go_wp2_with fail
        clear b6
        generalize hW6 : wx.alloc (.cells #[.pointer (some ⟨d, 0, none⟩), .int .i64 0, .int .u64 (R.next : Int), .slice none 0 0, .int .i64 0, .int .i64 0, .int .i64 0, .int .i64 0] 102) = w6 at *
        refine HBG.out.mono ?_
        rintro e w7 ⟨rfl, hd7, hl7, hf7⟩
        have hz7 := hf7.size
        have HF7 : Hid (Fr D w w7) := hid8 (((Fr.refl D w).trans (Fr.below HB6.out) (fun j e => .inl e)).trans hf7 (fun j e => by
          rcases e with e | e
          · exact .inl e
          · exact .inr (by omega)))
        have HD7 := hid8 hd7
        have HL7 := hid8 hl7
        have HMF := hid8 hf7
        clear HBG hd7 hl7 hf7
        generalize hRb : beg S n R.next = Rb at *
        have HRb := hid8 hRb
        clear hRb hW6
        obtain ⟨x, Sb⟩ := Rb
        by_cases hx : x = 0
        · subst hx
          have hnr : ∀ j, (D j ∨ j = wx.heap.size) → ¬ (w4.heap.size ≤ j ∧ j < wx.heap.size) := fun j e k => by
            rcases e with e | e
            · have := HLT.out j e; omega
            · omega
          have HM7 := hid8 (HM6.out.same (HMF.out.block w4.heap.size (by omega) (fun e => hnr _ e ⟨Nat.le_refl _, by omega⟩)))
          have HC7 := hid8 (HC6.out.same (fun j hj => HMF.out.block j (by have := hj.2; omega) (fun e => hnr j e ⟨by have := hj.1; omega, hj.2⟩)))
          obtain ⟨y1, y2, y3⟩ := HM7.out.cells
          have hr7 := HM7.out.lt
          obtain ⟨av, cv, rfl⟩ := HC7.out.len
          have HOP : Hid (OpenR S first 0 (some (Lg.new n R.next, R.cs)) Sb) := hid8 (by
            have := OpenR.ok h0 h1 ho HGF.out HRS.out (by rw [HRb.out])
            rwa [HRb.out] at this)
          have HGL : Hid (Gl B w7) := hid8 (HG.out.on (HF7.out.to (fun k hk e => by have := HDB.out k e; omega) hB))
          generalize hCL : R.cs.length = cl at *
          clear t1 t2 t3 hnr
          have PM7 : PM w7 B (fun j => Land.more D w6 w7 j ∨ j = wx.heap.size) wx.heap.size d Sb (Lg.new n R.next) 0 := by
            refine ⟨⟨Land.more D w6 w7, .slice none 0 0, HD7.out, HL7.out, Wt.nil _ _, fun j hj => ⟨.inl hj, fun e => ?_⟩⟩, .inr rfl, fun j hj => ?_, by omega, HGL.out, ⟨?_, ?_, fun _ => ?_, Nat.mod_lt _ (by decide), Nat.zero_le _, Nat.le_refl _, by omega, fun b hb => by cases hb⟩⟩
            · rcases hj with q | q
              · have := HLT.out j q; omega
              · have := q.1; omega
            · rcases hj with (q | q) | q
              · exact ⟨HDB.out j q, by have := HLT.out j q; omega⟩
              · exact ⟨by have := q.1; omega, q.2⟩
              · exact ⟨by omega, by omega⟩
            · show 1 ≤ n
              omega
            · show n ≤ 1099511627776
              omega
            · show n ≤ 1073741924 + Sb.P.n
              have := HD7.out.inv.lo
              simp only at this
              omega
          have HPM := hid8 PM7
          clear PM7
          go_wp2
          go_region
          go_wp2
          go_ret3
          refine ⟨0, _, Sb, HOP.out, HF7.out.drewN 1, .inr ⟨Lg.new n R.next, R.cs, wx.heap.size, _, (fun j => Land.more D w6 w7 j ∨ j = wx.heap.size), (fun j => w4.heap.size < j ∧ j < wx.heap.size), rfl, rfl, HPM.out.below (below_drew w7), HC7.out.below (below_drew w7), fun j hj => ?_, fun j hj => ⟨by have := hj.1; omega, by have := hj.2; show j < w7.heap.size; omega, fun k => ?_⟩⟩⟩
          · rcases hj with (q | q) | q
            · exact .inl q
            · exact .inr ⟨by have := q.1; omega, q.2⟩
            · exact .inr ⟨by omega, by show j < w7.heap.size; omega⟩
          · rcases k with (q | q) | q
            · have := HLT.out j q; have := hj.1; omega
            · have := q.1; have := hj.2; omega
            · have := hj.2; omega
        · have hxb : (x != 0) = true := by simpa using hx
          have HOP : Hid (OpenR S first x none Sb) := hid8 (by
            have := OpenR.err h0 h1 ho HGF.out HRS.out (by rw [HRb.out]; exact hx)
            rwa [HRb.out] at this)
          go_wp2
          go_ret3
          exact ⟨x, none, Sb, HOP.out, HF7.out, .inl ⟨rfl, rfl, HD7.out.mono (fun j hj => more_up (by omega) hj) (more_lt HLT.out HF7.out.size)⟩⟩
theorem walOpen_any (hD : DV w D d S) (hDB : ∀ j, D j → B ≤ j) (hB : B ≤ w.heap.size) (hg : Gl B w) (first : Int) :
    Calls Tryz.prog 17 #[.pointer (some ⟨d, 0, none⟩), .int .i64 first] w fun e w' => OpL w w' B D d S first e := by
  by_cases h : first < 1 ∨ 1073741824 < first
  · exact open_arg hD first h
  · cases ho : S.o with
    | true => exact open_off hD hB hg first (by omega) (by omega) ho
    | false => exact open_on hD hDB hB hg first (by omega) (by omega) ho
end
end Go.Proofs.YtgifcgniphncdaaGreatDoor

/-
  'shown': the document's examples.
-/
set_option linter.unusedVariables false
set_option linter.unusedSimpArgs false
namespace Go.Proofs.YtgifcgniphncdaaGreatDoor
open Go.RowKit Go.Maps

set_option maxRecDepth 100000 in
set_option maxHeartbeats 2000000 in
theorem one_any (t : Int) (w : World) : Calls Tryz.prog 34 #[.int .i64 t] w fun e w' => ∃ ao, e = .returned (.agg #[.int .i64 t, .slice ao 1 1]) ∧ Seq 3 Wr.cells w' ao 1 1 [w1x] ∧ Below w.heap.size w w' := by
  have z0 : (w.alloc (.cells #[.int .i64 0, .slice none 0 0] 37)).heap.size = w.heap.size + 1 := by simp
  have k0 := heap_alloc_new w (.cells #[.int .i64 0, .slice none 0 0] 37)
  have k1 := heap_alloc_new (w.alloc (.cells #[.int .i64 0, .slice none 0 0] 37)) (.cells #[.string ⟨#[97]⟩, .string ⟨#[120]⟩, .bool false] 85)
  rw [z0] at k1
  have W0 : Below w.heap.size w ((w.alloc (.cells #[.int .i64 t, .slice (some ⟨w.heap.size + 1, 0, none⟩) 1 1] 37)).alloc (.cells #[.string ⟨#[97]⟩, .string ⟨#[120]⟩, .bool false] 85)) := ((Below.refl _ _).alloc (Nat.le_refl _) _).alloc (by simp) _
  have za : (w.alloc (.cells #[.int .i64 t, .slice (some ⟨w.heap.size + 1, 0, none⟩) 1 1] 37)).heap.size = w.heap.size + 1 := by simp
  have ka : ((w.alloc (.cells #[.int .i64 t, .slice (some ⟨w.heap.size + 1, 0, none⟩) 1 1] 37)).alloc (.cells #[.string ⟨#[97]⟩, .string ⟨#[120]⟩, .bool false] 85)).heap[w.heap.size]? = some (.cells #[.int .i64 t, .slice (some ⟨w.heap.size + 1, 0, none⟩) 1 1] 37 (0, 0)) := (Below.heap_alloc _ _ _ (by omega)).trans (heap_alloc_new w _)
  have kb := heap_alloc_new (w.alloc (.cells #[.int .i64 t, .slice (some ⟨w.heap.size + 1, 0, none⟩) 1 1] 37)) (.cells #[.string ⟨#[97]⟩, .string ⟨#[120]⟩, .bool false] 85)
  rw [za] at kb
  have HQ : Hid (Seq 3 Wr.cells ((w.alloc (.cells #[.int .i64 t, .slice (some ⟨w.heap.size + 1, 0, none⟩) 1 1] 37)).alloc (.cells #[.string ⟨#[97]⟩, .string ⟨#[120]⟩, .bool false] 85)) (some ⟨w.heap.size + 1, 0, none⟩) 1 1 [w1x]) := hid8 (by
    refine ⟨rfl, Nat.le_refl _, by unfold maxLen; omega, fun _ => ⟨_, _, rfl, by simp, fun i x hi j u hj => ?_⟩⟩
    have hi0 : i = 0 := by
      have := (List.getElem?_eq_some_iff.1 hi).1
      simp at this
      omega
    subst hi0
    simp only [List.getElem?_cons_zero, Option.some.injEq] at hi
    subst hi
    rw [Go.Joins.cell_of_block kb, show 0 + 0 * 3 + j = j from by omega]
    match j, hj with
    | 0, hj => simpa [Wr.cells, w1x] using hj
    | 1, hj => simpa [Wr.cells, w1x] using hj
    | 2, hj => simpa [Wr.cells, w1x] using hj)
  have HB := hid8 W0
  have y0 : ((w.alloc (.cells #[.int .i64 t, .slice (some ⟨w.heap.size + 1, 0, none⟩) 1 1] 37)).alloc (.cells #[.string ⟨#[97]⟩, .string ⟨#[120]⟩, .bool false] 85)).cell? ⟨w.heap.size, 0, none⟩ = some (.int .i64 t) := by rw [Go.Joins.cell_of_block ka]; rfl
  have y1 : ((w.alloc (.cells #[.int .i64 t, .slice (some ⟨w.heap.size + 1, 0, none⟩) 1 1] 37)).alloc (.cells #[.string ⟨#[97]⟩, .string ⟨#[120]⟩, .bool false] 85)).cell? ⟨w.heap.size, 1, none⟩ = some (.slice (some ⟨w.heap.size + 1, 0, none⟩) 1 1) := by rw [Go.Joins.cell_of_block ka]; rfl
  clear W0 ka kb za
  go_enter Tryz.func34, Tryz.ntmps34
  go_wp2
  generalize (w.alloc (.cells #[.int .i64 t, .slice (some ⟨w.heap.size + 1, 0, none⟩) 1 1] 37)).alloc (.cells #[.string ⟨#[97]⟩, .string ⟨#[120]⟩, .bool false] 85) = W at *
  refine bodyPost_ret (v := .agg #[.int .i64 t, .slice (some ⟨w.heap.size + 1, 0, none⟩) 1 1]) (by simp [results, Tryz.results34, go_sem, y0, y1]) rfl ⟨_, rfl, HQ.out, HB.out⟩

/-! ### A log, wherever its blocks lie -/
def PX (w : World) (B l d : Nat) (S : Dsk) (L : Lg) (N : Nat) : Prop := ∃ A, PM w B A l d S L N
section
variable {w w' : World} {B : Nat} {l d : Nat} {S : Dsk} {L : Lg} {N : Nat}
theorem Gl.up {w : World} {B B' : Nat} (h : Gl B w) (hb : B ≤ B') : Gl B' w := fun w' hw => h w' (hw.mono hb)
theorem PM.bel {A : Nat → Prop} (h : PM w B A l d S L N) (F : Fr A w w') : Below B w w' := F.to (fun k hk e => by have := (h.lo k e).1; omega) h.bw
theorem PX.below (h : PX w B l d S L N) (hb : Below w.heap.size w w') : PX w' B l d S L N := by
  obtain ⟨A, h⟩ := h
  exact ⟨A, h.below hb⟩
theorem PX.bw (h : PX w B l d S L N) : B ≤ w.heap.size := by
  obtain ⟨A, h⟩ := h
  exact h.bw
theorem pxPut (h : PX w B l d S L N) (hN : N < 1000000) {ao : Option Addr} {len cap : Nat} {ws : List Wr} (hs : Seq 3 Wr.cells w ao len cap ws) (t : Int) :
    Calls Tryz.prog 33 #[.pointer (some ⟨l, 0, none⟩), .agg #[.int .i64 t, .slice ao len cap]] w fun e w' => e = .returned (.tuple #[.int .i64 (L.put ⟨t, ws⟩).1.1, .int .i64 (L.put ⟨t, ws⟩).1.2]) ∧ PX w' B l d S (L.put ⟨t, ws⟩).2 (N + 1) ∧ Below B w w' := by
  obtain ⟨A, h⟩ := h
  refine (walPut_any h hN hs t).mono ?_
  rintro e w' ⟨rfl, hp, hf⟩
  exact ⟨rfl, ⟨_, hp⟩, h.bel hf⟩
theorem pxFlush (h : PX w B l d S L N) : Calls Tryz.prog 35 #[.pointer (some ⟨l, 0, none⟩)] w fun e w' => e = .returned (.tuple #[.bool (L.flush S).1.1, .int .i64 (L.flush S).1.2]) ∧ PX w' B l d (L.flush S).2.2 (L.flush S).2.1 N ∧ Below B w w' := by
  obtain ⟨A, h⟩ := h
  refine (walFlush_any h).mono ?_
  rintro e w' ⟨rfl, hp, hf⟩
  exact ⟨rfl, ⟨_, hp⟩, h.bel hf⟩
theorem pxRotate (h : PX w B l d S L N) : Calls Tryz.prog 30 #[.pointer (some ⟨l, 0, none⟩)] w fun e w' => e = .returned (.tuple #[.int .i64 (L.turn S).1.1, .int .i64 (L.turn S).1.2]) ∧ PX w' B l d (L.turn S).2.2 (L.turn S).2.1 N ∧ Below B w w' := by
  obtain ⟨A, h⟩ := h
  refine (walRotate_any h).mono ?_
  rintro e w' ⟨rfl, hp, hf⟩
  exact ⟨rfl, ⟨_, hp⟩, h.bel hf⟩
theorem pxFlushed (h : PX w B l d S L N) : Calls Tryz.prog 21 #[.pointer (some ⟨l, 0, none⟩)] w fun e w' => e = .returned (.int .i64 (L.done : Int)) ∧ w' = w := by
  obtain ⟨A, h⟩ := h
  exact pmFlushed_any h
theorem pxOps (h : PX w B l d S L N) : Calls Tryz.prog 24 #[.pointer (some ⟨d, 0, none⟩)] w fun e w' => e = .returned (.int .i64 S.P.n) ∧ w' = w := by
  obtain ⟨A, ⟨⟨D, v, h1, h2, h3, h4⟩, h5, h6, h7, h8, h9⟩⟩ := h
  exact dv_ops h1
end
end Go.Proofs.YtgifcgniphncdaaGreatDoor

/-
  'shown': the document's examples, played.
-/
set_option linter.unusedVariables false
set_option linter.unusedSimpArgs false
namespace Go.Proofs.YtgifcgniphncdaaGreatDoor
open Go.RowKit Go.Maps

/-- The states of the three flushes. -/
def stx : Nat → Lg × Dsk
  | 0 => (lD, sB)
  | k + 1 => ((stx k).1.flush (stx k).2).2
theorem stx_ans (k : Nat) (hk : k < 3) : ((stx k).1.flush (stx k).2).1 = (false, 0) := by
  match k, hk with
  | 0, _ => exact flush1.1
  | 1, _ => exact flush2.1
  | 2, _ => exact flush3.1
theorem stx3 : stx 3 = q3x.2 := rfl
theorem nm3 : nm8 3 = ⟨#[108, 111, 103, 45, 51]⟩ := by
  apply ByteArray.ext
  show (nmL 3).toArray = _
  unfold nmL
  rw [show (3 : Int) = ((3 : Nat) : Int) from rfl, itoa_nat, Lib.decDigits_one (by decide)]
  rfl

set_option maxRecDepth 100000 in
set_option maxHeartbeats 8000000 in
theorem shown8_any {B0 : Nat} (w : World) (hg0 : Gl B0 w) (hB0 : B0 ≤ w.heap.size) : Calls Tryz.prog 8 #[] w fun e w' => e = .returned (.bool true) ∧ Below w.heap.size w w' := by
  have HG := hid8 (hg0.up hB0)
  clear hg0 hB0
  go_enter Tryz.func8, Tryz.ntmps8
  go_wp2_with fail
  refine (dv_new w).mono ?_
  rintro e w1 ⟨d, rfl, hD, hb1⟩
  have hz1 := hb1.size
  have HOP := hid8 (walOpen_any (B := w.heap.size) (show DV w1 _ d sA from hD) (fun j hj => hj.1) hz1 (HG.out.on hb1) 1)
  clear hD
  have HB1 := hid8 hb1
  clear hb1
  go_wp2_with fail
  refine HOP.out.mono ?_
  rintro e w2 ⟨er, x, S', hop, hf, hres⟩
  obtain ⟨rfl, rfl, rfl⟩ := openA hop
  have hb2 : Below w.heap.size w1 w2 := hf.to (fun k hk e => by have := e.1; omega) hz1
  rcases hres with ⟨h, -⟩ | ⟨L, cs, l, vc, A, C, hx, rfl, hpm, hcr, -, -⟩
  · cases h
  simp only [Option.some.injEq, Prod.mk.injEq] at hx
  obtain ⟨rfl, rfl⟩ := hx
  obtain ⟨av, cv, rfl⟩ := hcr.len
  have HB2 := hid8 (HB1.out.trans hb2)
  have HP2 : Hid (PX w2 w.heap.size l d sB lB 0) := hid8 ⟨A, hpm⟩
  have HOS := hid8 (pxOps HP2.out)
  rw [wlB.2.1] at HOS
  clear HOP hop hf hb2 hpm hcr HB1 hz1
  simp only [List.length_nil]
  go_wp2_with fail
  refine HOS.out.mono ?_
  rintro e w3 ⟨rfl, rfl⟩
  clear HOS
  -- two are put
  go_wp2_with fail
  refine (one_any 1 w3).mono ?_
  rintro e w4 ⟨a4, rfl, hs4, hb4⟩
  have HP4 := hid8 (HP2.out.below hb4)
  have HB4 := hid8 (HB2.out.trans (hb4.mono HP2.out.bw))
  have HPU := hid8 (pxPut HP4.out (by decide) hs4 1)
  rw [show lB.put ⟨1, [w1x]⟩ = lB.put c1x from rfl, show (lB.put c1x).1 = (1, 0) from by rw [put1]] at HPU
  clear hs4 hb4 HP4 HP2 HB2
  go_wp2_with fail
  refine HPU.out.mono ?_
  rintro e w5 ⟨rfl, hp5, hb5⟩
  have HP5 : Hid (PX w5 w.heap.size l d sB lC 1) := hid8 hp5
  have HB5 := hid8 (HB4.out.trans hb5)
  clear HPU hp5 hb5 HB4
  go_wp2_with fail
  refine (one_any 2 w5).mono ?_
  rintro e w6 ⟨a6, rfl, hs6, hb6⟩
  have HP6 := hid8 (HP5.out.below hb6)
  have HB6 := hid8 (HB5.out.trans (hb6.mono HP5.out.bw))
  have HPU := hid8 (pxPut HP6.out (by decide) hs6 2)
  rw [show lC.put ⟨2, [w1x]⟩ = lC.put c2x from rfl, show (lC.put c2x).1 = (2, 0) from by rw [put2]] at HPU
  clear hs6 hb6 HP6 HP5 HB5
  go_wp2_with fail
  refine HPU.out.mono ?_
  rintro e w7 ⟨rfl, hp7, hb7⟩
  have HP7 : Hid (PX w7 w.heap.size l d (stx 0).2 (stx 0).1 2) := hid8 hp7
  have HB7 := hid8 (HB6.out.trans hb7)
  clear HPU hp7 hb7 HB6
  go_wp2
  go_loopw [9, 10, 11] (fun i _ _ wr => ∃ k : Nat, k ≤ 3 ∧ i = .int .i64 (k : Int) ∧ PX wr w.heap.size l d (stx k).2 (stx k).1 2 ∧ Below w.heap.size w wr) (fun i _ _ _ => 3 - (intOf i).toNat)
  case atStart => exact ⟨0, by omega, rfl, HP7.out, HB7.out⟩
  case round =>
    clear HP7 HB7
    obtain ⟨k, hk, rfl, hp, hb⟩ := hrel
    obtain ⟨wR, hwR⟩ : ∃ x, x = wr := ⟨_, rfl⟩
    subst hwR
    by_cases hk3 : k < 3
    · have HFl := hid8 (pxFlush hp)
      rw [stx_ans k hk3] at HFl
      have HB := hid8 hb
      have hk4 : (k : Int) < 3 := by omega
      clear hp hb
      go_wp2_with fail
      refine HFl.out.mono ?_
      rintro e w8 ⟨rfl, hp8, hb8⟩
      have HP8 : Hid (PX w8 w.heap.size l d (stx (k + 1)).2 (stx (k + 1)).1 2) := hid8 hp8
      have HB8 := hid8 (HB.out.trans hb8)
      clear HFl hp8 hb8 HB
      go_wp2
      go_roundw
      case rel => exact ⟨k + 1, by omega, by go_num, HP8.out, HB8.out⟩
      case measure => simp [intOf]; omega
    · obtain rfl : k = 3 := by omega
      rw [stx3] at hp
      have HB := hid8 hb
      have HFd := hid8 (pxFlushed hp)
      rw [show q3x.2.1.done = 0 from by rw [flush3.2.1]] at HFd
      have HFl := hid8 (pxFlush hp)
      rw [show q3x.2.1.flush q3x.2.2 = q4x from rfl, flush4.1] at HFl
      clear hp hb
      go_wp2_with fail
      refine HFd.out.mono ?_
      rintro e w8 ⟨rfl, rfl⟩
      clear HFd
      go_wp2_with fail
      refine HFl.out.mono ?_
      rintro e w9 ⟨rfl, hp9, hb9⟩
      have HB9 := hid8 (HB.out.trans hb9)
      have HRo := hid8 (pxRotate hp9)
      rw [show q4x.2.1.turn q4x.2.2 = q5x from rfl, turn5.1] at HRo
      clear HFl hp9 hb9 HB
      go_wp2_with fail
      refine HRo.out.mono ?_
      rintro e wA ⟨rfl, hpA, hbA⟩
      obtain ⟨AA, ⟨⟨D, v, d1, d2, d3, d4⟩, hal, hAl, hBw, hgA, okA⟩⟩ := hpA
      have HBA := hid8 (HB9.out.trans hbA)
      have hnD : ¬ D l := fun e => (d4 l e).2 rfl
      have HO1 := hid8 (walOpen_any (B := w.heap.size) d1 (fun j hj => (hAl j (d4 j hj).1).1) hBw hgA 1)
      have HLm := hid8 d2
      have HDl : Hid (∀ j, D j → w.heap.size ≤ j) := hid8 (fun j hj => (hAl j (d4 j hj).1).1)
      have HLl : Hid (∀ j, D j → j < wA.heap.size) := hid8 d1.lt
      clear HRo hbA HB9 d1 d2 d3 d4 hAl hgA okA hal
      go_wp2_with fail
      refine HO1.out.mono ?_
      rintro e wB ⟨er, x, S', hop, hf, hres⟩
      obtain ⟨rfl, L6, rfl⟩ := open6 hop
      rcases hres with ⟨h, -⟩ | ⟨L, cs, l2, vc, A2, C2, hx, rfl, hpm, hcr, hA2, -⟩
      · cases h
      simp only [Option.some.injEq, Prod.mk.injEq] at hx
      obtain ⟨rfl, rfl⟩ := hx
      obtain ⟨av2, cv2, rfl⟩ := hcr.len
      have hzB := hf.size
      have HBB := hid8 (HBA.out.trans (hf.to (fun k hk e => by have := HDl.out k e; omega) hBw))
      have HLB := hid8 (HLm.out.fr hf hnD)
      obtain ⟨⟨D2, v2, g1, g2, g3, g4⟩, hal2, hAl2, hBw2, hgB, okB⟩ := hpm
      have HO2 := hid8 (walOpen_any (B := w.heap.size) g1 (fun j hj => (hAl2 j (g4 j hj).1).1) hBw2 hgB 0)
      have hDD : Hid (∀ j, D2 j → w.heap.size ≤ j) := hid8 (fun j hj => (hAl2 j (g4 j hj).1).1)
      have hnD2 : ¬ D2 l := fun e => by
        rcases hA2 l (g4 l e).1 with q | q
        · exact hnD q
        · have := HLm.out.lt; have := q.1; omega
      have HGB := hid8 hgB
      clear HO1 hop hf hcr hA2 g1 g2 g3 g4 hal2 hAl2 hgB okB HLm HBA
      simp only [List.length_cons, List.length_nil]
      go_wp2_with fail
      refine HO2.out.mono ?_
      rintro e wC ⟨er, x, S', hop, hf, hres⟩
      obtain ⟨rfl, rfl⟩ := open7 hop
      rcases hres with ⟨-, rfl, -⟩ | ⟨L, cs, l3, vc, A3, C3, hx, -⟩
      rotate_left
      · cases hx
      have hbC := hf.to (n := w.heap.size) (fun k hk e => by have := hDD.out k e; omega) hBw2
      have HBC := hid8 (HBB.out.trans hbC)
      have HLC := hid8 (HLB.out.fr hf hnD2)
      have HFd := hid8 (walFlushed_any HLC.out)
      rw [turn5.2.1] at HFd
      have HNm := hid8 (name_any (HGB.out.on hbC) 3 (by decide) (by decide))
      rw [nm3] at HNm
      clear HO2 hop hf hbC HBB HLB HLC
      go_wp2_with fail
      refine HFd.out.mono ?_
      rintro e wD ⟨rfl, rfl⟩
      clear HFd
      go_wp2_with fail
      refine HNm.out.mono ?_
      rintro e wE ⟨rfl, hbE⟩
      have HBE := hid8 (HBC.out.trans (hbE.mono (by have := HBC.out.size; omega)))
      clear HNm hbE HBC
      go_wp2
      go_ret
      exact ⟨rfl, HBE.out⟩
end Go.Proofs.YtgifcgniphncdaaGreatDoor

/-
  The document's digits and Name; WalNames.
-/
set_option linter.unusedVariables false
set_option linter.unusedSimpArgs false
namespace Go.Proofs.YtgifcgniphncdaaGreatDoor
open Go.RowKit Go.Maps

theorem dig_ext (d : Nat) (h : d < 10) : (⟨#[48, 49, 50, 51, 52, 53, 54, 55, 56, 57]⟩ : ByteArray).extract d (d + 1) = ⟨#[UInt8.ofNat (48 + d)]⟩ := by
  have : ∀ j : Fin 10, (⟨#[48, 49, 50, 51, 52, 53, 54, 55, 56, 57]⟩ : ByteArray).extract j.val (j.val + 1) = ⟨#[UInt8.ofNat (48 + j.val)]⟩ := by decide +kernel
  exact this ⟨d, h⟩
theorem dec_step (v : Nat) : Lib.decDigits v = (if v / 10 = 0 then [] else Lib.decDigits (v / 10)) ++ [UInt8.ofNat (48 + v % 10)] := by
  conv => lhs; rw [Lib.decDigits]
  by_cases h : v < 10
  · rw [dif_pos h, if_pos (by omega), Nat.mod_eq_of_lt h]
    rfl
  · rw [dif_neg h, if_neg (by omega)]
/-- What is left, and what is written so far. -/
def Dg (u v : Nat) (l : List UInt8) : Prop := (l = [] ∧ v = u) ∨ (l ≠ [] ∧ Lib.decDigits u = (if v = 0 then [] else Lib.decDigits v) ++ l)
theorem Dg.step {u v : Nat} {l : List UInt8} (h : Dg u v l) (hn : ¬ (v = 0 ∧ l ≠ [])) : Dg u (v / 10) (UInt8.ofNat (48 + v % 10) :: l) := by
  refine .inr ⟨by simp, ?_⟩
  have e := dec_step v
  rcases h with ⟨rfl, rfl⟩ | ⟨h1, h2⟩
  · exact e
  · have hv : ¬ v = 0 := fun e => hn ⟨e, h1⟩
    rw [h2, if_neg hv, e, List.append_assoc]
    rfl
theorem Dg.len {u v : Nat} {l : List UInt8} (h : Dg u v l) (hu : u < 18446744073709551616) : l.length ≤ 20 := by
  rcases h with ⟨rfl, _⟩ | ⟨_, h2⟩
  · simp
  · have h1 := Lib.decDigits_length u
    have h3 := Lib.nDigits_le20 u hu
    rw [h2, List.length_append] at h1
    omega
theorem Dg.done {u : Nat} {l : List UInt8} (h : Dg u 0 l) (hn : l ≠ []) : Lib.decDigits u = l := by
  rcases h with ⟨h1, _⟩ | ⟨_, h2⟩
  · exact absurd h1 hn
  · simpa using h2
theorem cat_one (b : UInt8) (l : List UInt8) : (⟨#[b]⟩ : ByteArray) ++ (⟨l.toArray⟩ : ByteArray) = ⟨(b :: l).toArray⟩ := by
  apply ByteArray.ext
  apply Array.toList_inj.1
  simp

def mtx : Value → Nat
  | .string b => if b.size = 0 then 1 else 0
  | _ => 0
set_option maxRecDepth 100000 in
set_option maxHeartbeats 4000000 in
theorem digits_pos (n : Int) (h0 : 0 ≤ n) (h1 : n ≤ 9223372036854775807) (w : World) : Calls Tryz.prog 51 #[.int .i64 n] w fun e w' => e = .returned (.string ⟨(Lib.itoa n).toArray⟩) ∧ w' = w := by
  obtain ⟨u, hu⟩ : ∃ u : Nat, u = n.natAbs := ⟨_, rfl⟩
  have hu2 : u ≤ 9223372036854775808 := by omega
  have hn : decide (n < 0) = false := by simp; omega
  have HI : Hid (Lib.itoa n = Lib.decDigits u) := hid8 (by unfold Lib.itoa; rw [if_neg (by omega), show n.toNat = u from by omega])
  have hnu : n = (u : Int) := by omega
  have HNU := hid8 hnu
  generalize hIT : Lib.itoa n = IT at *
  clear hnu hu hIT
  go_enter Tryz.func51, Tryz.ntmps51
  go_wp2
  go_loop [3, 4, 5] (fun s m _ => ∃ (v : Nat) (l : List UInt8), s = .string ⟨l.toArray⟩ ∧ m = .int .i64 ((v : Int)) ∧ v ≤ u ∧ Hid (Dg u v l)) (fun s m _ => 2 * (intOf m).natAbs + mtx s)
  case atStart => exact ⟨u, [], rfl, by rw [HNU.out], Nat.le_refl _, hid8 (.inl ⟨rfl, rfl⟩)⟩
  case round =>
    obtain ⟨v, l, rfl, rfl, hv, hd⟩ := hrel
    have hll := hd.out.len (by omega)
    have hsz : (⟨l.toArray⟩ : ByteArray).size = l.length := by show l.toArray.size = _; simp
    by_cases hv0 : v = 0
    · subst hv0
      by_cases hl : l = []
      · subst hl
        have HS := hid8 (hd.out.step (by simp))
        go_wp2
        refine ⟨⟨0, [48], ?_, rfl, Nat.zero_le _, HS⟩, ?_⟩
        · rw [dig_ext 0 (by decide), cat_one]; rfl
        · rw [dig_ext 0 (by decide), cat_one]; decide
      · have HD := hid8 (hd.out.done hl)
        have hse : ((⟨l.toArray⟩ : ByteArray).toList == []) = false := by rw [ByteArray.toList_eq]; simpa using hl
        have hse2 : ¬ (⟨l.toArray⟩ : ByteArray).toList = [] := by rw [ByteArray.toList_eq]; simpa using hl
        have hse3 : l.isEmpty = false := by simpa using hl
        go_wp2
        go_ret
        exact ⟨rets8 (by rw [HI.out, HD.out]), rfl⟩
    · have HS := hid8 (hd.out.step (fun e => hv0 e.1))
      have hr : Int.tmod (v : Int) 10 = ((v % 10 : Nat) : Int) := rfl
      have hq : Int.tdiv (v : Int) 10 = ((v / 10 : Nat) : Int) := rfl
      have hlt : v % 10 < 10 := Nat.mod_lt _ (by decide)
      have hv1 : ¬ (v : Int) = 0 := by omega
      go_wp2
      refine ⟨⟨v / 10, UInt8.ofNat (48 + v % 10) :: l, ?_, rfl, by omega, HS⟩, ?_⟩
      · rw [dig_ext _ hlt, cat_one]
      · rw [dig_ext _ hlt, cat_one]
        show 2 * ((v : Int) / 10).natAbs + (if (⟨(UInt8.ofNat (48 + v % 10) :: l).toArray⟩ : ByteArray).size = 0 then 1 else 0) < 2 * (v : Int).natAbs + mtx _
        rw [if_neg (by show ¬ (UInt8.ofNat (48 + v % 10) :: l).toArray.size = 0; simp)]
        omega
set_option maxRecDepth 100000 in
set_option maxHeartbeats 4000000 in
theorem digits_neg (n : Int) (h0 : n < 0) (h1 : -9223372036854775808 ≤ n) (w : World) : Calls Tryz.prog 51 #[.int .i64 n] w fun e w' => e = .returned (.string ⟨(Lib.itoa n).toArray⟩) ∧ w' = w := by
  obtain ⟨u, hu⟩ : ∃ u : Nat, u = n.natAbs := ⟨_, rfl⟩
  have hu2 : u ≤ 9223372036854775808 := by omega
  have hn : decide (n < 0) = true := by simp; omega
  have HI : Hid (Lib.itoa n = 45 :: Lib.decDigits u) := hid8 (by unfold Lib.itoa; rw [if_pos h0, hu])
  have hnu : n = -(u : Int) := by omega
  have HNU := hid8 hnu
  generalize hIT : Lib.itoa n = IT at *
  clear hnu hu hIT
  go_enter Tryz.func51, Tryz.ntmps51
  go_wp2
  go_loop [3, 4, 5] (fun s m _ => ∃ (v : Nat) (l : List UInt8), s = .string ⟨l.toArray⟩ ∧ m = .int .i64 (-(v : Int)) ∧ v ≤ u ∧ Hid (Dg u v l)) (fun s m _ => 2 * (intOf m).natAbs + mtx s)
  case atStart => exact ⟨u, [], rfl, by rw [HNU.out], Nat.le_refl _, hid8 (.inl ⟨rfl, rfl⟩)⟩
  case round =>
    obtain ⟨v, l, rfl, rfl, hv, hd⟩ := hrel
    have hll := hd.out.len (by omega)
    have hsz : (⟨l.toArray⟩ : ByteArray).size = l.length := by show l.toArray.size = _; simp
    by_cases hv0 : v = 0
    · subst hv0
      by_cases hl : l = []
      · subst hl
        have HS := hid8 (hd.out.step (by simp))
        go_wp2
        refine ⟨⟨0, [48], ?_, rfl, Nat.zero_le _, HS⟩, ?_⟩
        · rw [dig_ext 0 (by decide), cat_one]; rfl
        · rw [dig_ext 0 (by decide), cat_one]; decide
      · have HD := hid8 (hd.out.done hl)
        have hse : ((⟨l.toArray⟩ : ByteArray).toList == []) = false := by rw [ByteArray.toList_eq]; simpa using hl
        have hse2 : ¬ (⟨l.toArray⟩ : ByteArray).toList = [] := by rw [ByteArray.toList_eq]; simpa using hl
        have hse3 : l.isEmpty = false := by simpa using hl
        go_wp2
        go_ret
        exact ⟨rets8 (by rw [HI.out, HD.out]; exact cat_one 45 l), rfl⟩
    · have HS := hid8 (hd.out.step (fun e => hv0 e.1))
      have hr : Int.tmod (v : Int) 10 = ((v % 10 : Nat) : Int) := rfl
      have hq : Int.tdiv (v : Int) 10 = ((v / 10 : Nat) : Int) := rfl
      have hlt : v % 10 < 10 := Nat.mod_lt _ (by decide)
      have hv1 : ¬ -(v : Int) = 0 := by omega
      have hr2 : Int.tmod (-(v : Int)) 10 = -((v % 10 : Nat) : Int) := by rw [Int.neg_tmod]; rfl
      have hq2 : Int.tdiv (-(v : Int)) 10 = -((v / 10 : Nat) : Int) := by rw [Int.neg_tdiv]; rfl
      by_cases hz : v % 10 = 0
      · rw [hz] at hr2 HS
        go_wp2
        refine ⟨⟨v / 10, UInt8.ofNat (48 + 0) :: l, ?_, ?_, by omega, HS⟩, ?_⟩
        · rw [dig_ext 0 (by decide), cat_one]
        · congr 1
        · rw [dig_ext 0 (by decide), cat_one]
          show 2 * (-((v / 10 : Nat) : Int)).natAbs + (if (⟨(UInt8.ofNat (48 + 0) :: l).toArray⟩ : ByteArray).size = 0 then 1 else 0) < 2 * (-(v : Int)).natAbs + mtx _
          rw [if_neg (by show ¬ (UInt8.ofNat (48 + 0) :: l).toArray.size = 0; simp)]
          omega
      · have hneg : decide (-((v % 10 : Nat) : Int) < 0) = true := by simp; omega
        go_wp2
        refine ⟨⟨v / 10, UInt8.ofNat (48 + v % 10) :: l, ?_, ?_, by omega, HS⟩, ?_⟩
        · rw [dig_ext _ hlt, cat_one]
        · congr 1
        · rw [dig_ext _ hlt, cat_one]
          show 2 * (-((v / 10 : Nat) : Int)).natAbs + (if (⟨(UInt8.ofNat (48 + v % 10) :: l).toArray⟩ : ByteArray).size = 0 then 1 else 0) < 2 * (-(v : Int)).natAbs + mtx _
          rw [if_neg (by show ¬ (UInt8.ofNat (48 + v % 10) :: l).toArray.size = 0; simp)]
          omega

set_option maxRecDepth 100000 in
theorem refName_any (n : Int) (h0 : -9223372036854775808 ≤ n) (h1 : n ≤ 9223372036854775807) (w : World) : Calls Tryz.prog 16 #[.int .i64 n] w fun e w' => e = .returned (.string (nm8 n)) ∧ w' = w := by
  have HD : Hid (Calls Tryz.prog 51 #[.int .i64 n] w fun e w' => e = .returned (.string ⟨(Lib.itoa n).toArray⟩) ∧ w' = w) := hid8 (by
    by_cases h : n < 0
    · exact digits_neg n h h0 w
    · exact digits_pos n (by omega) h1 w)
  have hle : (Lib.itoa n).length ≤ 21 := Lib.itoa_length_le n h0 h1
  have hle2 : ¬ 9223372036854775807 < 4 + (Lib.itoa n).length := by omega
  go_enter Tryz.func16, Tryz.ntmps16
  go_wp2_with fail
  refine HD.out.mono ?_
  rintro e w' ⟨rfl, rfl⟩
  clear HD
  go_wp2
  go_ret
  exact ⟨rets8 (nm8_eq n), rfl⟩
set_option maxRecDepth 100000 in
set_option maxHeartbeats 2000000 in
theorem walNames_walk {B : Nat} (n : Int) (h0 : -9223372036854775808 ≤ n) (h1 : n ≤ 9223372036854775807) (w : World) (hg : Gl B w) (hB : B ≤ w.heap.size) :
    Calls Tryz.prog 4 #[.int .i64 n] w fun e w' => e = .returned (.bool true) ∧ Below w.heap.size w w' := by
  have HS := hid8 (shown8_any w hg hB)
  have HG := hid8 hg
  clear hg
  go_enter Tryz.func4, Tryz.ntmps4
  go_wp2_with fail
  refine HS.out.mono ?_
  rintro e w1 ⟨rfl, hb1⟩
  have HB1 := hid8 hb1
  have HN := hid8 (name_any (HG.out.on (hb1.mono hB)) n h0 h1)
  have hz1 := hb1.size
  clear HS hb1
  go_wp2_with fail
  refine HN.out.mono ?_
  rintro e w2 ⟨rfl, hb2⟩
  have HB2 := hid8 (HB1.out.trans (hb2.mono hz1))
  clear HN hb2 HB1
  go_wp2_with fail
  refine (refName_any n h0 h1 w2).mono ?_
  rintro e w3 ⟨rfl, rfl⟩
  go_wp2
  go_ret
  refine ⟨ret8 ?_, HB2.out⟩
  simp
end Go.Proofs.YtgifcgniphncdaaGreatDoor
