/-
  Open.
-/
import Derived.Test.YthfcjfhaoabdeaaGreatDoorRz53
import Derived.Test.YthfcjfhaoabdeaaGreatDoorRz54
import Derived.Test.YthfcjfhaoabdeaaGreatDoorRz58
import Derived.Test.YthfcjfhaoabdeaaGreatDoorRz52
set_option linter.unusedVariables false
set_option linter.unusedSimpArgs false
namespace Go.Proofs.YthfcjfhaoabdeaaGreatDoor
open Go.RowKit Go.Maps

/-- What Open answers, and leaves. -/
def OpL (w w' : World) (B : Nat) (D : Nat → Prop) (d : Nat) (S : Dsk) (first : Int) (e : Ending) : Prop :=
  ∃ er x S', OpenR S first er x S' ∧ Fr D w w' ∧
    ((x = none ∧ e = .returned (.tuple #[.pointer none, .slice none 0 0, .int .i64 er]) ∧ DV w' (Land.more D w w') d S') ∨
    ∃ L cs l vc A C, x = some (L, cs) ∧ e = .returned (.tuple #[.pointer (some ⟨l, 0, none⟩), vc, .int .i64 er]) ∧ PM w' B A l d S' L 0 ∧ CRow w' C vc cs ∧ (∀ j, A j → Land.more D w w' j) ∧ (∀ j, C j → w.heap.size ≤ j ∧ j < w'.heap.size ∧ ¬ A j))
theorem gap_eq (P : PD) (first : Int) : gap P first = (segs P).any (gapP first (segs P)) := rfl
theorem DV.up {w w' : World} {D : Nat → Prop} {d : Nat} {S : Dsk} (h : DV w D d S) (hb : Below w.heap.size w w') : DV w' (Land.more D w w') d S := (h.below hb).mono (fun j hj => .inl hj) (more_lt h.lt hb.size)

section
variable {w : World} {B : Nat} {D : Nat → Prop} {d : Nat} {S : Dsk}
set_option maxRecDepth 100000 in
theorem open_arg (hD : DV w D d S) (first : Int) (h : first < 1 ∨ 1073741824 < first) :
    Calls Tryz.prog 52 #[.pointer (some ⟨d, 0, none⟩), .int .i64 first] w fun e w' => OpL w w' B D d S first e := by
  have HR : Hid (OpL w w B D d S first (.returned (.tuple #[.pointer none, .slice none 0 0, .int .i64 2]))) := hid8 ⟨2, none, S, .arg h, Fr.refl _ _, .inl ⟨rfl, rfl, hD.up (Below.refl _ _)⟩⟩
  clear hD
  rcases h with h | h
  · have h1 : decide (first < 1) = true := by simpa using h
    go_enter Tryz.func52, Tryz.ntmps52
    go_wp2
    try simp only [Exit.inBlock, Exit.then]
    refine bodyPost_ret (results_tmp3 rfl _ _ _) rfl ?_
    exact HR.out
  · have h1 : decide (first < 1) = false := by simp; omega
    have h2 : decide (1073741824 < first) = true := by simpa using h
    go_enter Tryz.func52, Tryz.ntmps52
    go_wp2
    try simp only [Exit.inBlock, Exit.then]
    refine bodyPost_ret (results_tmp3 rfl _ _ _) rfl ?_
    exact HR.out
set_option maxRecDepth 100000 in
set_option maxHeartbeats 2000000 in
theorem open_off (hD : DV w D d S) (hB : B ≤ w.heap.size) (hg : Gl B w) (first : Int) (h0 : 1 ≤ first) (h1 : first ≤ 1073741824) (ho : S.o = true) :
    Calls Tryz.prog 52 #[.pointer (some ⟨d, 0, none⟩), .int .i64 first] w fun e w' => OpL w w' B D d S first e := by
  have d1 : decide (first < 1) = false := by simp; omega
  have d2 : decide (1073741824 < first) = false := by simp; omega
  have HN := hid8 (name_any hg first (by omega) (by omega))
  have HD := hid8 hD
  clear hD
  go_enter Tryz.func52, Tryz.ntmps52
  go_wp2_with fail
  refine HN.out.mono ?_
  rintro e w1 ⟨rfl, hb1⟩
  have HRd := hid8 (dv_read (HD.out.below hb1) (nm8 first) (nm8_max first (by omega) (by omega)))
  rw [ho] at HRd
  have hz1 := hb1.size
  have HB1 := hid8 hb1
  clear HN hb1
  go_wp2_with fail
  refine HRd.out.mono ?_
  rintro e w2 ⟨u, rfl, -, hb2⟩
  have HB2 := hid8 (HB1.out.trans (hb2.mono hz1))
  clear HRd hb2 HB1
  simp only [if_true]
  go_wp2
  try simp only [Exit.inBlock, Exit.then]
  refine bodyPost_ret (results_tmp3 rfl _ _ _) rfl ?_
  exact ⟨24, none, S, .off h0 h1 ho, Fr.below HB2.out, .inl ⟨rfl, rfl, HD.out.up HB2.out⟩⟩
end
end Go.Proofs.YthfcjfhaoabdeaaGreatDoor

/-
  Open: the segments are read, one behind the other; another one is begun.
-/
set_option linter.unusedVariables false
set_option linter.unusedSimpArgs false
namespace Go.Proofs.YthfcjfhaoabdeaaGreatDoor
open Go.RowKit Go.Maps

section
variable {w : World} {B : Nat} {D : Nat → Prop} {d : Nat} {S : Dsk}
set_option maxRecDepth 100000 in
set_option maxHeartbeats 16000000 in
theorem open_on (hD : DV w D d S) (hDB : ∀ j, D j → B ≤ j) (hB : B ≤ w.heap.size) (hg : Gl B w) (first : Int) (h0 : 1 ≤ first) (h1 : first ≤ 1073741824) (ho : S.o = false) :
    Calls Tryz.prog 52 #[.pointer (some ⟨d, 0, none⟩), .int .i64 first] w fun e w' => OpL w w' B D d S first e := by
  have d1 : decide (first < 1) = false := by simp; omega
  have d2 : decide (1073741824 < first) = false := by simp; omega
  have HN := hid8 (name_any hg first (by omega) (by omega))
  have hinv := hD.inv
  have HLT := hid8 hD.lt
  have HD := hid8 hD
  have HG := hid8 hg
  have HDB := hid8 hDB
  have HSL := hid8 (segs_len hinv)
  have HSM : Hid (∀ n ∈ segs S.P, 1 ≤ n ∧ nm8 n ∈ Land.dnames S.P.now ∧ n < 1000000000000000000) := hid8 (fun n hn => segs_mem hinv hn)
  have HRN : Hid (∀ n ∈ segs S.P, (Land.pread S.P (nm8 n)).1 = 0 ∧ Byt (Land.pread S.P (nm8 n)).2 ∧ (Land.pread S.P (nm8 n)).2.length ≤ 262144) := hid8 (fun n hn => read_name hinv (segs_mem hinv hn).2.1)
  have hcode := pread_code S.P (nm8 first)
  have hpn := hinv.lo
  clear hD hg hDB
  go_enter Tryz.func52, Tryz.ntmps52
  go_wp2_with fail
  refine HN.out.mono ?_
  rintro e w1 ⟨rfl, hb1⟩
  have HRd := hid8 (dv_read (HD.out.below hb1) (nm8 first) (nm8_max first (by omega) (by omega)))
  rw [ho] at HRd
  simp only [Bool.false_eq_true, if_false] at HRd
  have hz1 := hb1.size
  have HB1 := hid8 hb1
  clear HN hb1
  go_wp2_with fail
  refine HRd.out.mono ?_
  rintro e w2 ⟨u, rfl, -, hb2⟩
  have hz2 := hb2.size
  have HB2 := hid8 (HB1.out.trans (hb2.mono hz1))
  have HSO := hid8 (segmentsOn_any (HD.out.below HB2.out) (HG.out.on (HB2.out.mono hB)) (by omega))
  clear HRd hb2 HB1
  generalize (Land.pread S.P (nm8 first)).1 = code at *
  have hcd : (code == 24) = false := by simpa using hcode
  have hcd2 : ¬ code = 24 := hcode
  clear hcode
  go_wp2_with fail
  refine HSO.out.mono ?_
  rintro e w3 ⟨v3, rfl, hr3, hb3⟩
  obtain ⟨at3, ct3, rfl, hsq, hlo3⟩ := hr3.seq
  have hz3 := hb3.size
  have HB3 := hid8 (HB2.out.trans (hb3.mono (by omega)))
  have HGP := hid8 (hasGap_any first hsq (fun n hn => by have := HSM.out n hn; omega))
  rw [← gap_eq] at HGP
  have HSQ := hid8 hsq
  have hsl := HSL.out
  clear HSO hb3 HB2 hr3 hsq hlo3
  go_wp2_with fail
  refine HGP.out.mono ?_
  rintro e w4 ⟨rfl, hb4⟩
  have hz4 := hb4.size
  have HB4 := hid8 (HB3.out.trans (hb4.mono (by omega)))
  have HSQ4 := hid8 (HSQ.out.keep hb4)
  clear HGP hb4 HB3 HSQ
  generalize hns : (segs S.P).length = nl at *
  cases hgap : gap S.P first with
  | true =>
    go_wp2
    go_ret3
    exact ⟨81, none, S, .gap h0 h1 ho hgap, Fr.below HB4.out, .inl ⟨rfl, rfl, HD.out.up HB4.out⟩⟩
  | false =>
    have HGF := hid8 hgap
    have hzl : w.heap.size ≤ w4.heap.size := HB4.out.size
    have m5 : Rm (w4.alloc (.cells #[.bool false, .int .u64 0, .slice none 0 0] 148)) w4.heap.size (.slice none 0 0) ⟨false, 0, []⟩ := heap_alloc_new w4 _
    have b5 : Below w4.heap.size w4 (w4.alloc (.cells #[.bool false, .int .u64 0, .slice none 0 0] 148)) := (Below.refl _ _).alloc (Nat.le_refl _) _
    have HM5 := hid8 m5
    have HB5 := hid8 b5
    have hgf : first ≤ first := Int.le_refl _
    have hup := upTo_le (segs S.P) first
    clear m5 b5 hgap
    go_wp2
    go_loopw [11, 12, 13] (fun i _ _ wr => ∃ (n : Int) (R : Rdr) (v : Value), i = .int .i64 n ∧ first ≤ n ∧ (n - first).toNat + upTo (segs S.P) n ≤ 64 ∧ R.next < 18446744073709551616 ∧ R.cs.length ≤ 10000 * (n - first).toNat ∧ Hid (∀ x, Rds S.P n R x → Rds S.P first ⟨false, 0, []⟩ x) ∧ Rm wr w4.heap.size v R ∧ CRow wr (fun j => w4.heap.size < j ∧ j < wr.heap.size) v R.cs ∧ Below w4.heap.size w4 wr) (fun i _ _ _ => upTo (segs S.P) (intOf i))
    case atStart => exact ⟨first, _, _, rfl, hgf, by omega, by decide, by simp, hid8 (fun x h => h), HM5.out, CRow.nil _ _, HB5.out⟩
    case round =>
      clear HM5 HB5
      obtain ⟨n, R, v, rfl, hfn, hcnt, hnx, hcs, hrd, hm, hc, hb⟩ := hrel
      have hsz := hb.size
      have hrl := hm.lt
      have hn64 : (n - first).toNat ≤ 64 := by omega
      have HSr := hid8 (HSQ4.out.keep hb)
      have HCn := hid8 (sContains_any HSr.out n)
      have HBw := hid8 (HB4.out.trans (hb.mono (by omega)))
      have HM := hid8 hm
      have HC := hid8 hc
      have HBr := hid8 hb
      obtain ⟨wR, hwR⟩ : ∃ x, x = wr := ⟨_, rfl⟩
      subst hwR
      clear hm hc hb
      by_cases hmem : n ∈ segs S.P
      · have hct : (segs S.P).contains n = true := by simpa using hmem
        rw [hct] at HCn
        have HNn := hid8 (name_any (HG.out.on (HBw.out.mono hB)) n (by omega) (by omega))
        obtain ⟨p1, p2, p3⟩ := HRN.out n hmem
        have hupn := upTo_next _ n hmem
        have hw : IntKind.i64.wrap (n + 1) = n + 1 := by rw [IntKind.wrap_i64]; omega
        have HMEM := hid8 hmem
        clear hct hmem
        go_wp2_with fail
        refine HCn.out.mono ?_
        rintro e wx ⟨rfl, rfl⟩
        clear HCn
        go_wp2_with fail
        refine HNn.out.mono ?_
        rintro e w6 ⟨rfl, hb6⟩
        have hz6 := hb6.size
        have HB6 := hid8 (HBw.out.trans (hb6.mono (by omega)))
        have HRd := hid8 (dv_read (HD.out.below HB6.out) (nm8 n) (nm8_max n (by omega) (by omega)))
        rw [ho] at HRd
        simp only [Bool.false_eq_true, if_false] at HRd
        rw [p1] at HRd
        have HM6 := hid8 (HM.out.below hb6)
        have HC6 := hid8 (HC.out.below hb6)
        have HBr6 := hid8 (HBr.out.trans (hb6.mono hsz))
        clear HNn hb6 HM HC HBr HBw
        go_wp2_with fail
        refine HRd.out.mono ?_
        rintro e w7 ⟨u, rfl, hO7, hb7⟩
        have hz7 := hb7.size
        obtain ⟨a7, c7, rfl, sl7, lo7⟩ := hO7.sl p2
        have HRR := hid8 (rread_any (A := fun j => w4.heap.size < j ∧ j < wx.heap.size) sl7 p3 (HM6.out.below hb7) hnx (HC6.out.below hb7) (by omega) (fun e => by have := e.1; omega) (fun j hj => by have := hj.2; omega) n (by omega) (by omega) (fun _ b off e k => by have := lo7 b off e; omega))
        have HB7 := hid8 (HB6.out.trans (hb7.mono (by omega)))
        have HBr7 := hid8 (HBr6.out.trans (hb7.mono (by omega)))
        clear HRd hb7 HM6 HC6 HBr6 HB6 hO7 sl7 lo7
        generalize hXL : (Land.pread S.P (nm8 n)).2.length = xl at *
        go_wp2_with fail
        refine HRR.out.mono ?_
        rintro e w8 ⟨hres, hf8⟩
        have hz8 := hf8.size
        have HBr8 := hid8 (HBr7.out.trans (hf8.to (n := w4.heap.size) (fun k hk e => by rcases e with e | e; have := e.1; omega; omega) (by omega)))
        have HB8 := hid8 (HB4.out.trans (HBr8.out.mono (by omega)))
        clear HRR hf8 HBr7 HB7
        rcases hres with ⟨R', v', hseg, rfl, hm8, hc8⟩ | ⟨hseg, rfl⟩
        · have hmo := segR_more p2 (by omega) hnx hseg
          have HM8 := hid8 hm8
          have HC8 := hid8 (hc8.mono (A' := fun j => w4.heap.size < j ∧ j < w8.heap.size) (fun j hj q => by
            rcases q with q | q
            · exact ⟨q.1, hj⟩
            · exact ⟨by have := q.1; omega, hj⟩))
          have HR8 : Hid (∀ x, Rds S.P (n + 1) R' x → Rds S.P first ⟨false, 0, []⟩ x) := hid8 (fun x h => hrd.out x (.go HMEM.out hseg h))
          clear hm8 hc8 hseg
          go_wp2
          go_roundw
          case rel => exact ⟨n + 1, R', v', rfl, by omega, by omega, hmo.1, by omega, HR8, HM8.out, HC8.out, HBr8.out⟩
          case measure =>
            show upTo (segs S.P) (intOf (.int .i64 _)) < upTo (segs S.P) n
            simp only [intOf]
            try rw [hw]
            omega
        · have HR8 : Hid (Rds S.P first ⟨false, 0, []⟩ none) := hid8 (hrd.out none (.bad HMEM.out hseg))
          clear hseg
          go_wp2
          go_ret3
          exact ⟨81, none, S, .bad h0 h1 ho HGF.out HR8.out, Fr.below HB8.out, .inl ⟨rfl, rfl, HD.out.up HB8.out⟩⟩
      · have hct : (segs S.P).contains n = false := by simpa using hmem
        rw [hct] at HCn
        have HRS : Hid (Rds S.P first ⟨false, 0, []⟩ (some (n, R))) := hid8 (hrd.out _ (.stop hmem))
        obtain ⟨t1, t2, t3⟩ := HM.out.cells
        have m6 : Lm (wR.alloc (.cells #[.pointer (some ⟨d, 0, none⟩), .int .i64 0, .int .u64 (R.next : Int), .slice none 0 0, .int .i64 0, .int .i64 0, .int .i64 0, .int .i64 0] 154)) wR.heap.size d (.slice none 0 0) ⟨0, R.next, [], 0, 0, 0, 0⟩ := heap_alloc_new wR _
        have b6 : Below wR.heap.size wR (wR.alloc (.cells #[.pointer (some ⟨d, 0, none⟩), .int .i64 0, .int .u64 (R.next : Int), .slice none 0 0, .int .i64 0, .int .i64 0, .int .i64 0, .int .i64 0] 154)) := (Below.refl _ _).alloc (Nat.le_refl _) _
        have z6 : (wR.alloc (.cells #[.pointer (some ⟨d, 0, none⟩), .int .i64 0, .int .u64 (R.next : Int), .slice none 0 0, .int .i64 0, .int .i64 0, .int .i64 0, .int .i64 0] 154)).heap.size = wR.heap.size + 1 := by simp
        have hzw := HBw.out.size
        have HB6 := hid8 (HBw.out.trans (b6.mono (by omega)))
        have hnD : ¬ D wR.heap.size := fun e => by have := HLT.out _ e; omega
        have HBG := hid8 (begin_any (HD.out.below HB6.out) m6 hnD (by omega) (by omega) HDB.out (HG.out.on (HB6.out.mono hB)) n (by omega) (by omega) hnx)
        have HM6 := hid8 (HM.out.below b6)
        have HC6 := hid8 (HC.out.below b6)
        clear hct hmem m6 HM HC HBr
        go_wp2_with fail
        refine HCn.out.mono ?_
        rintro e wx ⟨rfl, rfl⟩
        clear HCn
        go_wp2_with fail
        clear b6
        generalize hW6 : wx.alloc (.cells #[.pointer (some ⟨d, 0, none⟩), .int .i64 0, .int .u64 (R.next : Int), .slice none 0 0, .int .i64 0, .int .i64 0, .int .i64 0, .int .i64 0] 154) = w6 at *
        refine HBG.out.mono ?_
        rintro e w7 ⟨rfl, hd7, hl7, hf7⟩
        have hz7 := hf7.size
        have HF7 : Hid (Fr D w w7) := hid8 (((Fr.refl D w).trans (Fr.below HB6.out) (fun j e => .inl e)).trans hf7 (fun j e => by
          rcases e with e | e
          · exact .inl e
          · exact .inr (by omega)))
        have HD7 := hid8 hd7
        have HL7 := hid8 hl7
        have HMF := hid8 hf7
        clear HBG hd7 hl7 hf7
        generalize hRb : beg S n R.next = Rb at *
        have HRb := hid8 hRb
        clear hRb hW6
        obtain ⟨x, Sb⟩ := Rb
        by_cases hx : x = 0
        · subst hx
          have hnr : ∀ j, (D j ∨ j = wx.heap.size) → ¬ (w4.heap.size ≤ j ∧ j < wx.heap.size) := fun j e k => by
            rcases e with e | e
            · have := HLT.out j e; omega
            · omega
          have HM7 := hid8 (HM6.out.same (HMF.out.block w4.heap.size (by omega) (fun e => hnr _ e ⟨Nat.le_refl _, by omega⟩)))
          have HC7 := hid8 (HC6.out.same (fun j hj => HMF.out.block j (by have := hj.2; omega) (fun e => hnr j e ⟨by have := hj.1; omega, hj.2⟩)))
          obtain ⟨y1, y2, y3⟩ := HM7.out.cells
          have hr7 := HM7.out.lt
          obtain ⟨av, cv, rfl⟩ := HC7.out.len
          have HOP : Hid (OpenR S first 0 (some (Lg.new n R.next, R.cs)) Sb) := hid8 (by
            have := OpenR.ok h0 h1 ho HGF.out HRS.out (by rw [HRb.out])
            rwa [HRb.out] at this)
          have HGL : Hid (Gl B w7) := hid8 (HG.out.on (HF7.out.to (fun k hk e => by have := HDB.out k e; omega) hB))
          generalize hCL : R.cs.length = cl at *
          clear t1 t2 t3 hnr
          have PM7 : PM w7 B (fun j => Land.more D w6 w7 j ∨ j = wx.heap.size) wx.heap.size d Sb (Lg.new n R.next) 0 := by
            refine ⟨⟨Land.more D w6 w7, .slice none 0 0, HD7.out, HL7.out, Wt.nil _ _, fun j hj => ⟨.inl hj, fun e => ?_⟩⟩, .inr rfl, fun j hj => ?_, by omega, HGL.out, ⟨?_, ?_, fun _ => ?_, Nat.mod_lt _ (by decide), Nat.zero_le _, Nat.le_refl _, by omega, fun b hb => by cases hb⟩⟩
            · rcases hj with q | q
              · have := HLT.out j q; omega
              · have := q.1; omega
            · rcases hj with (q | q) | q
              · exact ⟨HDB.out j q, by have := HLT.out j q; omega⟩
              · exact ⟨by have := q.1; omega, q.2⟩
              · exact ⟨by omega, by omega⟩
            · show 1 ≤ n
              omega
            · show n ≤ 1099511627776
              omega
            · show n ≤ 1073741924 + Sb.P.n
              have := HD7.out.inv.lo
              simp only at this
              omega
          have HPM := hid8 PM7
          clear PM7
          go_wp2
          go_region
          go_wp2
          go_ret3
          refine ⟨0, _, Sb, HOP.out, HF7.out.drewN 1, .inr ⟨Lg.new n R.next, R.cs, wx.heap.size, _, (fun j => Land.more D w6 w7 j ∨ j = wx.heap.size), (fun j => w4.heap.size < j ∧ j < wx.heap.size), rfl, rfl, HPM.out.below (below_drew w7), HC7.out.below (below_drew w7), fun j hj => ?_, fun j hj => ⟨by have := hj.1; omega, by have := hj.2; show j < w7.heap.size; omega, fun k => ?_⟩⟩⟩
          · rcases hj with (q | q) | q
            · exact .inl q
            · exact .inr ⟨by have := q.1; omega, q.2⟩
            · exact .inr ⟨by omega, by show j < w7.heap.size; omega⟩
          · rcases k with (q | q) | q
            · have := HLT.out j q; have := hj.1; omega
            · have := q.1; have := hj.2; omega
            · have := hj.2; omega
        · have hxb : (x != 0) = true := by simpa using hx
          have HOP : Hid (OpenR S first x none Sb) := hid8 (by
            have := OpenR.err h0 h1 ho HGF.out HRS.out (by rw [HRb.out]; exact hx)
            rwa [HRb.out] at this)
          go_wp2
          go_ret3
          exact ⟨x, none, Sb, HOP.out, HF7.out, .inl ⟨rfl, rfl, HD7.out.mono (fun j hj => more_up (by omega) hj) (more_lt HLT.out HF7.out.size)⟩⟩
theorem walOpen_any (hD : DV w D d S) (hDB : ∀ j, D j → B ≤ j) (hB : B ≤ w.heap.size) (hg : Gl B w) (first : Int) :
    Calls Tryz.prog 52 #[.pointer (some ⟨d, 0, none⟩), .int .i64 first] w fun e w' => OpL w w' B D d S first e := by
  by_cases h : first < 1 ∨ 1073741824 < first
  · exact open_arg hD first h
  · cases ho : S.o with
    | true => exact open_off hD hB hg first (by omega) (by omega) ho
    | false => exact open_on hD hDB hB hg first (by omega) (by omega) ho
end
end Go.Proofs.YthfcjfhaoabdeaaGreatDoor
