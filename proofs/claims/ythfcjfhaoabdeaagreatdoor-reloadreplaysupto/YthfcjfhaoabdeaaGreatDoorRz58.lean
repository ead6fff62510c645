/-
  The segments that are on a disk.
-/
import Derived.Test.YthfcjfhaoabdeaaGreatDoorRz51
import Derived.Test.YthfcjfhaoabdeaaGreatDoorRz28
import Derived.Test.YthfcjfhaoabdeaaGreatDoorRz36
import Derived.Maps.AppendAt
import Derived.Lib.AtoiErrMem
import Derived.Lib.AtoiBound
set_option linter.unusedVariables false
set_option linter.unusedSimpArgs false
namespace Go.Proofs.YthfcjfhaoabdeaaGreatDoor
open Go.RowKit Go.Maps

abbrev iv (n : Int) : Value := .int .i64 n
/-- A row of numbers. -/
def IRow (w : World) (base : Nat) (v : Value) (ns : List Int) : Prop := w.ownsRow base 3 1 v ns.length (ns.map iv)
theorem row_low8 {w : World} {base base' n size : Nat} {e : TypeId} {v : Value} {xs : List Value} (h : w.ownsRow base e size v n xs) (hb : base' ≤ base) : w.ownsRow base' e size v n xs := by
  obtain ⟨h1, h2⟩ := h
  refine ⟨h1, ?_⟩
  rcases h2 with h2 | ⟨g, cap, cur, rfl, hg, r⟩
  · exact .inl h2
  · exact .inr ⟨g, cap, cur, rfl, by omega, r⟩
theorem str_ne {a b : ByteArray} (h : a ≠ b) : (a.toList == b.toList) = false := by
  rw [ByteArray.toList_eq, ByteArray.toList_eq]
  have : ¬ a.data = b.data := fun e => h (ByteArray.ext e)
  simpa using this
theorem fm_one {α β : Type} (f : α → Option β) (x : α) : [x].filterMap f = (f x).toList := by
  cases h : f x <;> simp [h]
theorem infoI : (Tryz.prog.info? 3).map (fun i => (i.zero, i.size, i.bytes)) = some (some (.int .i64 0), 1, 8) := by kernel_rfl
theorem IRow.seq {w : World} {base : Nat} {v : Value} {ns : List Int} (h : IRow w base v ns) : ∃ ao cap, v = .slice ao ns.length cap ∧ Seq 1 ic w ao ns.length cap ns ∧ ∀ b off, ao = some ⟨b, off, none⟩ → base ≤ b := by
  rcases h.2 with ⟨rfl, h0⟩ | ⟨g, cap, cur, rfl, hg, hh, hn, hm, hs, ht⟩
  · exact ⟨none, 0, by rw [h0], ⟨rfl, by omega, Nat.zero_le _, fun h => absurd h (by omega)⟩, fun b off e => by cases e⟩
  · refine ⟨_, cap, rfl, ⟨rfl, hn, hm, fun _ => ⟨g, 0, rfl, (Array.getElem?_eq_some_iff.1 hh).1, fun i x hi j u hj => ?_⟩⟩, fun b off e => by simp only [Option.some.injEq, Addr.mk.injEq] at e; omega⟩
    have hj0 : j = 0 := by
      rcases Nat.eq_zero_or_pos j with e | e
      · exact e
      · rw [List.getElem?_eq_none (by simp; omega)] at hj; cases hj
    subst hj0
    simp only [List.getElem?_cons_zero, Option.some.injEq] at hj
    subst hj
    have hil : i < ns.length := (List.getElem?_eq_some_iff.1 hi).1
    rw [Go.Joins.cell_of_block hh, ← Array.getElem?_toList, show 0 + i * 1 + 0 = i from by omega]
    have e1 : (cur.toList.take (ns.length * 1))[i]? = (ns.map iv)[i]? := by rw [ht]
    rw [List.getElem?_take_of_lt (by omega)] at e1
    rw [e1, List.getElem?_map, hi]
    rfl

theorem atoi_ok (s : ByteArray) (n : Int) (hl : s.size ≤ 18) (h : Lib.atoi s.data.toList = some n) (w : World) :
    Calls Tryz.prog 128 #[.string s] w fun e w' => e = .returned (.tuple #[.int .i64 n, .nilIface]) ∧ Below w.heap.size w w' := by
  refine (Any.strconv_Atoi { atoiL with } s n hl h w).mono ?_
  rintro e w' ⟨rfl, t, rfl⟩
  exact ⟨rfl, Lib.bytesWorld_below _ _ _⟩
theorem atoi_no {B : Nat} (s : ByteArray) (hl : s.size ≤ 18) (h : Lib.atoi s.data.toList = none) (w : World) (hg : Gl B w) :
    Calls Tryz.prog 128 #[.string s] w fun e w' => ∃ t N, e = .returned (.tuple #[.int .i64 0, .iface t (.pointer (some ⟨N, 0, none⟩))]) ∧ Below w.heap.size w w' := by
  obtain ⟨-, te, pe, hc⟩ := hg w (Below.refl _ _)
  refine (Any.strconv_Atoi_err atoiL s hl h _ w hc (.inr ⟨te, pe, rfl⟩)).mono ?_
  rintro e w' ⟨N, rfl, -, -, hb⟩
  exact ⟨_, N, rfl, hb⟩
theorem trimB_size (s : ByteArray) : (trimB s).size ≤ s.size := by
  unfold trimB
  split
  · rw [ByteArray.size_extract]; omega
  · exact Nat.le_refl _

set_option maxRecDepth 100000 in
set_option maxHeartbeats 8000000 in
theorem segmentsOn_any {w : World} {B : Nat} {D : Nat → Prop} {d : Nat} {S : Dsk} (h : DV w D d S) (hg : Gl B w) (hB : B ≤ w.heap.size) :
    Calls Tryz.prog 74 #[.pointer (some ⟨d, 0, none⟩)] w fun e w' => ∃ v, e = .returned v ∧ IRow w' w.heap.size v (segs S.P) ∧ Below w.heap.size w w' := by
  obtain ⟨i0, hi, hz0, hz1, hz2⟩ := info_parts infoI
  have HN := hid8 (dv_names h)
  have hsz : ∀ s ∈ Land.dnames S.P.now, s.size ≤ 16 := fun s hs => by
    obtain ⟨p, hp, rfl⟩ := List.mem_map.1 hs
    obtain ⟨⟨t, et, hn⟩, _⟩ := h.inv.now.all p hp
    rw [et, ks_kl]
    exact (isName_size hn).2
  have hcount : (Land.dnames S.P.now).length ≤ 64 := by
    show (S.P.now.map _).length ≤ 64
    rw [List.length_map]
    exact h.inv.now.len
  have HE : Hid (segs S.P = (Land.dnames S.P.now).filterMap segOf) := hid8 rfl
  generalize Land.dnames S.P.now = ss at *
  generalize segs S.P = sg at *
  have HSZ := hid8 hsz
  have HG := hid8 hg
  clear h hg hsz
  go_enter Tryz.func74, Tryz.ntmps74
  go_wp2_with fail
  refine HN.out.mono ?_
  rintro e w1 ⟨ao, len, cap, rfl, hst, hb1⟩
  have hz1' := hb1.size
  have hl : ss.length = len := hst.1
  have hlen : (len : Int) ≤ 64 := by omega
  have HST := hid8 hst
  have HB1 := hid8 hb1
  have HL := hid8 hl
  have hnil : w1.ownsRow w1.heap.size 3 1 (.slice none 0 0) 0 [] := World.ownsRow_nil _ _ _ _
  clear HN hst hb1 hl hcount
  go_wp2
  go_loopw [3, 5, 6, 7, 11] (fun v _ _ _ i wr => ∃ k : Nat, k ≤ len ∧ i = .int .i64 (k : Int) ∧ IRow wr w1.heap.size v ((ss.take k).filterMap segOf) ∧ Below w1.heap.size w1 wr ∧ ((ss.take k).filterMap segOf).length ≤ k) (fun _ _ _ _ i _ => len - (intOf i).toNat)
  case atStart => exact ⟨0, by omega, rfl, hnil, Below.refl _ _, by simp⟩
  case round =>
    clear hnil
    obtain ⟨k, hk, rfl, hv, hb, hvl⟩ := hrel
    have hsz := hb.size
    by_cases hkl : k < len
    · obtain ⟨b, off, rfl, hbl, hc⟩ := HST.out.2.2.2.2 (by omega)
      have q : wr.cell? ⟨b, off + k, none⟩ = some (.string (ss.getD k ByteArray.empty)) := (hb.cell (p := ⟨b, off + k, none⟩) hbl).trans (hc k hkl)
      have hk2 : k < ss.length := by have := HL.out; omega
      have ek : ss.take (k + 1) = ss.take k ++ [ss.getD k ByteArray.empty] := by
        rw [← List.take_append_getElem hk2]
        simp [List.getD, List.getElem?_eq_getElem hk2]
      have hmem : ss.getD k ByteArray.empty ∈ ss := by simp [List.getD, List.getElem?_eq_getElem hk2]
      have hs16 := HSZ.out _ hmem
      have hts := trimB_size (ss.getD k ByteArray.empty)
      have HEK : Hid ((ss.take (k + 1)).filterMap segOf = (ss.take k).filterMap segOf ++ (segOf (ss.getD k ByteArray.empty)).toList) := hid8 (by
        rw [ek, List.filterMap_append, fm_one])
      have HTP := hid8 (trimPrefix_any (ss.getD k ByteArray.empty) (by unfold maxLen; omega) wr)
      have hkl2 : (k : Int) < (len : Int) := by omega
      have HGr := hid8 (HG.out.on ((HB1.out.mono hB).trans (hb.mono (by omega))))
      generalize hX : ss.getD k ByteArray.empty = X at *
      have HV := hid8 hv
      have HB := hid8 hb
      clear hc ek hmem hv hb hX
      cases hat : Lib.atoi (trimB X).data.toList with
      | none =>
        have HEN : Hid ((ss.take (k + 1)).filterMap segOf = (ss.take k).filterMap segOf) := hid8 (by
          rw [HEK.out]
          have : segOf X = none := by unfold segOf; rw [hat]
          rw [this]; simp)
        have HAT := hid8 (atoi_no (trimB X) (by omega) hat wr HGr.out)
        go_wp2_with fail
        refine HTP.out.mono ?_
        rintro e w2 ⟨rfl, rfl⟩
        clear HTP
        go_wp2_with fail
        refine HAT.out.mono ?_
        rintro e w3 ⟨t, Nn, rfl, hb3⟩
        have HV3 := hid8 (row_on HV.out (fun j e => hb3.block j (World.ownsRow.lt HV.out j e).2))
        have HB3 := hid8 (HB.out.trans (hb3.mono hsz))
        clear HAT hb3 HV HB
        go_wp2
        go_roundw
        case rel => exact ⟨k + 1, by omega, by go_num, by rw [HEN.out]; exact HV3.out, HB3.out, by rw [HEN.out]; omega⟩
        case measure => simp [intOf]; omega
      | some n =>
        have hbd := Lib.atoi_bound hat (by
          have e : (trimB X).data.toList.length = (trimB X).size := by rw [Array.length_toList]; rfl
          omega)
        have HAT := hid8 (atoi_ok (trimB X) n (by omega) hat wr)
        by_cases hn1 : 1 ≤ n
        · have hn2 : decide (1 ≤ n) = true := by simpa using hn1
          by_cases hnm : nm8 n = X
          · have HES : Hid ((ss.take (k + 1)).filterMap segOf = (ss.take k).filterMap segOf ++ [n]) := hid8 (by
              rw [HEK.out]
              have : segOf X = some n := by unfold segOf; rw [hat]; simp only []; rw [if_pos ⟨hn1, hnm⟩]
              rw [this]; rfl)
            go_wp2_with fail
            refine HTP.out.mono ?_
            rintro e w2 ⟨rfl, rfl⟩
            clear HTP
            go_wp2_with fail
            refine HAT.out.mono ?_
            rintro e w3 ⟨rfl, hb3⟩
            have HV3 := hid8 (row_on HV.out (fun j e => hb3.block j (World.ownsRow.lt HV.out j e).2))
            have HB3 := hid8 (HB.out.trans (hb3.mono hsz))
            have hz3 := hb3.size
            have HNA := hid8 (name_any (HGr.out.on (hb3.mono (by omega))) n (by omega) (by omega))
            clear HAT hb3 HV HB
            go_wp2_with fail
            refine HNA.out.mono ?_
            rintro e w4 ⟨rfl, hb4⟩
            have hz4 := hb4.size
            have HV4 := hid8 (row_on HV3.out (fun j e => hb4.block j (World.ownsRow.lt HV3.out j e).2))
            have HB4 := hid8 (HB3.out.trans (hb4.mono (by omega)))
            have heq : ((nm8 n).toList == X.toList) = true := by rw [hnm]; simp
            clear HNA hb4 HV3 HB3
            go_wp2_with (first | (at_builtin; refine Hid.out ?_) | fail)
            refine hid8 ?_
            refine wpList_append_own_at _ rfl _ _ 143 rfl w1.heap.size 3 i0 (.int .i64 0) 1 8 Tryz.underlying143 hi hz0 hz1 hz2 rfl (by decide) _ _ _ rfl (World.ownsRow.alloc HV4.out _) ⟨w4.heap.size, 0, none⟩ 1 1 [iv n] rfl rfl (cell_one_new _ _ _) (by intro u hu; simp at hu; subst hu; rfl) (by unfold maxLen; omega) (by omega) (by simp; omega) ?_
            intro v' w5 hown hgrow _ hat5
            have HV5 := hid8 (show IRow w5 w1.heap.size v' ((ss.take (k + 1)).filterMap segOf) from by
              unfold IRow
              rw [HES.out]
              simpa using hown)
            have HB5 := hid8 ((HB4.out.alloc (by omega) (.cells #[.int .i64 n] 3)).grown hgrow (by simp; omega) (fun k hk => (World.ownsRow.lt (World.ownsRow.alloc HV4.out (.cells #[.int .i64 n] 3)) k hk).1))
            clear hown hgrow hat5 HV4 HB4
            go_wp2
            go_roundw
            case rel => exact ⟨k + 1, by omega, by go_num, HV5.out, HB5.out, by rw [HES.out]; simp; omega⟩
            case measure => simp [intOf]; omega
          · have HEN : Hid ((ss.take (k + 1)).filterMap segOf = (ss.take k).filterMap segOf) := hid8 (by
              rw [HEK.out]
              have : segOf X = none := by unfold segOf; rw [hat]; simp only []; rw [if_neg (fun e => hnm e.2)]
              rw [this]; simp)
            have heq : ((nm8 n).toList == X.toList) = false := str_ne hnm
            go_wp2_with fail
            refine HTP.out.mono ?_
            rintro e w2 ⟨rfl, rfl⟩
            clear HTP
            go_wp2_with fail
            refine HAT.out.mono ?_
            rintro e w3 ⟨rfl, hb3⟩
            have HV3 := hid8 (row_on HV.out (fun j e => hb3.block j (World.ownsRow.lt HV.out j e).2))
            have HB3 := hid8 (HB.out.trans (hb3.mono hsz))
            have hz3 := hb3.size
            have HNA := hid8 (name_any (HGr.out.on (hb3.mono (by omega))) n (by omega) (by omega))
            clear HAT hb3 HV HB
            go_wp2_with fail
            refine HNA.out.mono ?_
            rintro e w4 ⟨rfl, hb4⟩
            have hz4 := hb4.size
            have HV4 := hid8 (row_on HV3.out (fun j e => hb4.block j (World.ownsRow.lt HV3.out j e).2))
            have HB4 := hid8 (HB3.out.trans (hb4.mono (by omega)))
            clear HNA hb4 HV3 HB3
            go_wp2
            go_roundw
            case rel => exact ⟨k + 1, by omega, by go_num, by rw [HEN.out]; exact HV4.out, HB4.out, by rw [HEN.out]; omega⟩
            case measure => simp [intOf]; omega
        · have hn2 : decide (1 ≤ n) = false := by simpa using hn1
          have HEN : Hid ((ss.take (k + 1)).filterMap segOf = (ss.take k).filterMap segOf) := hid8 (by
            rw [HEK.out]
            have : segOf X = none := by unfold segOf; rw [hat]; simp only []; rw [if_neg (fun e => hn1 e.1)]
            rw [this]; simp)
          go_wp2_with fail
          refine HTP.out.mono ?_
          rintro e w2 ⟨rfl, rfl⟩
          clear HTP
          go_wp2_with fail
          refine HAT.out.mono ?_
          rintro e w3 ⟨rfl, hb3⟩
          have HV3 := hid8 (row_on HV.out (fun j e => hb3.block j (World.ownsRow.lt HV.out j e).2))
          have HB3 := hid8 (HB.out.trans (hb3.mono hsz))
          clear HAT hb3 HV HB
          go_wp2
          go_roundw
          case rel => exact ⟨k + 1, by omega, by go_num, by rw [HEN.out]; exact HV3.out, HB3.out, by rw [HEN.out]; omega⟩
          case measure => simp [intOf]; omega
    · obtain rfl : k = len := by omega
      have HV : Hid (IRow wr w.heap.size u3 sg) := hid8 (by
        rw [HE.out]
        refine row_low8 ?_ hz1'
        rwa [show ss.take k = ss from by rw [← HL.out]; exact List.take_length] at hv)
      have HB := hid8 (HB1.out.trans (hb.mono hz1'))
      clear hv hb hvl
      go_wp2
      go_ret
      exact ⟨_, rfl, HV.out, HB.out⟩
end Go.Proofs.YthfcjfhaoabdeaaGreatDoor

/-
  hasGap.
-/
set_option linter.unusedVariables false
set_option linter.unusedSimpArgs false
namespace Go.Proofs.YthfcjfhaoabdeaaGreatDoor
open Go.RowKit Go.Maps

def gapP (first : Int) (ns : List Int) (n : Int) : Bool := decide (first < n) && decide (n ≤ 1073807360) && !ns.contains (n - 1)

set_option maxRecDepth 100000 in
set_option maxHeartbeats 2000000 in
theorem gap1_any {W : World} {fb tb : Nat} {first : Int} {ao : Option Addr} {len cap : Nat} {ns : List Int} (hf : W.cell? ⟨fb, 0, none⟩ = some (.int .i64 first)) (ht : W.cell? ⟨tb, 0, none⟩ = some (.slice ao len cap)) (hfl : fb < W.heap.size) (htl : tb < W.heap.size) (hs : Seq 1 ic W ao len cap ns) (n : Int) (h0 : -9223372036854775808 < n) (h1 : n ≤ 9223372036854775807) :
    Calls Tryz.prog 131 (#[.int .i64 n] ++ #[.pointer (some ⟨fb, 0, none⟩), .pointer (some ⟨tb, 0, none⟩)]) W fun e w' => e = .returned (.bool (gapP first ns n)) ∧ w' = W := by
  have HC := hid8 (sContains_any hs (n - 1))
  clear hs
  unfold gapP
  have hw : IntKind.i64.wrap (n - 1) = n - 1 := by rw [IntKind.wrap_i64]; omega
  by_cases a1 : first < n
  · have b1 : decide (first < n) = true := by simpa using a1
    rw [b1, Bool.true_and]
    by_cases a2 : n ≤ 1073807360
    · have b2 : decide (n ≤ 1073807360) = true := by simpa using a2
      rw [b2, Bool.true_and]
      go_enter Tryz.func131, Tryz.ntmps131
      go_wp2_with fail
      refine HC.out.mono ?_
      rintro e w' ⟨rfl, rfl⟩
      clear HC
      go_wp2
      go_ret
      exact ⟨ret8 (by simp), rfl⟩
    · have b2 : decide (n ≤ 1073807360) = false := by simpa using a2
      rw [b2, Bool.false_and]
      go_enter Tryz.func131, Tryz.ntmps131
      go_wp2
      go_ret
      exact ⟨rfl, rfl⟩
  · have b1 : decide (first < n) = false := by simpa using a1
    rw [b1, Bool.false_and, Bool.false_and]
    go_enter Tryz.func131, Tryz.ntmps131
    go_wp2
    go_ret
    exact ⟨rfl, rfl⟩
theorem eg_gap : ∀ args w, (callFunc 131 args).run Tryz.prog w = .ok (.enter 131 args) w := enters_of Tryz.func131 (by kernel_rfl) rfl

set_option maxRecDepth 100000 in
set_option maxHeartbeats 2000000 in
theorem gapIndex_any {w : World} {fb tb : Nat} {first : Int} {ao : Option Addr} {len cap : Nat} {ns : List Int} (hf : w.cell? ⟨fb, 0, none⟩ = some (.int .i64 first)) (ht : w.cell? ⟨tb, 0, none⟩ = some (.slice ao len cap)) (hfl : fb < w.heap.size) (htl : tb < w.heap.size) (hs : Seq 1 ic w ao len cap ns) (hn : ∀ n ∈ ns, -9223372036854775808 < n ∧ n ≤ 9223372036854775807) :
    Calls Tryz.prog 173 #[.slice ao len cap, .func (.func 131) #[] #[.pointer (some ⟨fb, 0, none⟩), .pointer (some ⟨tb, 0, none⟩)]] w fun e w' => (∃ r : Int, e = .returned (.int .i64 r) ∧ (0 ≤ r ↔ ns.any (gapP first ns) = true)) ∧ w' = w := by
  have eg := eg_gap
  have hcap := hs.2.1
  have hmax := hs.2.2.1
  unfold maxLen at hmax
  go_enter Tryz.func173, Tryz.ntmps173
  go_wp2
  go_loop [8, 5] (fun i _ => ∃ k : Nat, k ≤ len ∧ i = .int .i64 k ∧ Hid ((ns.take k).any (gapP first ns) = false)) (fun i _ => len - (intOf i).toNat)
  case atStart => exact ⟨0, by omega, rfl, hid8 (by simp)⟩
  case round =>
    obtain ⟨k, hk, rfl, hno⟩ := hrel
    by_cases hkl : k < len
    · obtain ⟨b, off, rfl, hbl, hcell⟩ := hs.2.2.2 (by omega)
      obtain ⟨o, ho⟩ := some_at hs.1 hkl
      have q0 : w.cell? ⟨b, off + k, none⟩ = some (.int .i64 o) := by have := hcell k o ho 0 _ rfl; simpa using this
      have hmem : o ∈ ns := List.mem_of_getElem? ho
      have hk2 : k < ns.length := by rw [hs.1]; exact hkl
      have hat : ns[k] = o := by rw [List.getElem?_eq_getElem hk2] at ho; exact Option.some.inj ho
      have HE : Hid (ns.take (k + 1) = ns.take k ++ [o]) := hid8 (by rw [← List.take_append_getElem hk2, hat])
      have hkl2 : (k : Int) < (len : Int) := by omega
      have HG := hid8 (gap1_any hf ht hfl htl hs o (hn o hmem).1 (hn o hmem).2)
      have HM := hid8 hmem
      clear hcell ho hat hmem
      go_wp2_with fail
      refine HG.out.mono ?_
      rintro e w' ⟨rfl, rfl⟩
      clear HG
      cases hb : gapP first ns o with
      | true =>
        have HA : Hid (ns.any (gapP first ns) = true) := hid8 (List.any_eq_true.2 ⟨o, HM.out, hb⟩)
        go_wp2
        go_ret
        exact ⟨⟨_, rfl, fun _ => HA.out, fun _ => by omega⟩, rfl⟩
      | false =>
        have HA : Hid ((ns.take (k + 1)).any (gapP first ns) = false) := hid8 (by rw [HE.out, List.any_append, hno.out]; simp [hb])
        go_wp2
        go_round
        case rel => exact ⟨k + 1, by omega, by go_num, HA⟩
        case measure => simp [intOf]; omega
    · obtain rfl : k = len := by omega
      have HO : Hid (ns.any (gapP first ns) = false) := hid8 (by
        have h := hno.out
        rwa [show ns.take k = ns from by rw [← hs.1]; exact List.take_length] at h)
      go_wp2
      go_ret
      exact ⟨⟨_, rfl, fun h => absurd h (by decide), fun h => absurd (List.any_eq_true.2 h) (by rw [HO.out]; decide)⟩, rfl⟩

set_option maxRecDepth 100000 in
set_option maxHeartbeats 2000000 in
theorem hasGap_any {w : World} (first : Int) {ao : Option Addr} {len cap : Nat} {ns : List Int} (hs : Seq 1 ic w ao len cap ns) (hn : ∀ n ∈ ns, -9223372036854775808 < n ∧ n ≤ 9223372036854775807) :
    Calls Tryz.prog 75 #[.slice ao len cap, .int .i64 first] w fun e w' => e = .returned (.bool (ns.any (gapP first ns))) ∧ Below w.heap.size w w' := by
  have b2 : Below w.heap.size w ((w.alloc (.cells #[.slice ao len cap] 143)).alloc (.cells #[.int .i64 first] 3)) := ((Below.refl _ _).alloc (Nat.le_refl _) _).alloc (by simp) _
  have hsz : (w.alloc (.cells #[.slice ao len cap] 143)).heap.size = w.heap.size + 1 := by simp
  have hsz2 : ((w.alloc (.cells #[.slice ao len cap] 143)).alloc (.cells #[.int .i64 first] 3)).heap.size = w.heap.size + 2 := by simp
  have k0 := heap_alloc_new w (.cells #[.slice ao len cap] 143)
  have k1 := heap_alloc_new (w.alloc (.cells #[.slice ao len cap] 143)) (.cells #[.int .i64 first] 3)
  rw [hsz] at k1
  have k0' : ((w.alloc (.cells #[.slice ao len cap] 143)).alloc (.cells #[.int .i64 first] 3)).heap[w.heap.size]? = some (.cells #[.slice ao len cap] 143 (0, 0)) := (Below.heap_alloc _ _ _ (by omega)).trans k0
  have c0 : ((w.alloc (.cells #[.slice ao len cap] 143)).alloc (.cells #[.int .i64 first] 3)).cell? ⟨w.heap.size, 0, none⟩ = some (.slice ao len cap) := by rw [Go.Joins.cell_of_block k0']; rfl
  have c1 : ((w.alloc (.cells #[.slice ao len cap] 143)).alloc (.cells #[.int .i64 first] 3)).cell? ⟨w.heap.size + 1, 0, none⟩ = some (.int .i64 first) := by rw [Go.Joins.cell_of_block k1]; rfl
  have HI := hid8 (gapIndex_any c1 c0 (by omega) (by omega) (hs.keep b2) hn)
  have hcon : Calls Tryz.prog 130 #[.slice ao len cap, .func (.func 131) #[] #[.pointer (some ⟨w.heap.size + 1, 0, none⟩), .pointer (some ⟨w.heap.size, 0, none⟩)]] ((w.alloc (.cells #[.slice ao len cap] 143)).alloc (.cells #[.int .i64 first] 3)) fun e w' => e = .returned (.bool (ns.any (gapP first ns))) ∧ w' = ((w.alloc (.cells #[.slice ao len cap] 143)).alloc (.cells #[.int .i64 first] 3)) := by
    generalize (w.alloc (.cells #[.slice ao len cap] 143)).alloc (.cells #[.int .i64 first] 3) = W at *
    generalize hR : ns.any (gapP first ns) = R at *
    clear k0 k1 k0' c0 c1 b2 hs hn hsz
    go_enter Tryz.func130, Tryz.ntmps130
    go_wp2_with fail
    refine HI.out.mono ?_
    rintro e w' ⟨⟨r, rfl, hr⟩, rfl⟩
    have HR : Hid (decide (0 ≤ r) = R) := hid8 (by rw [Bool.eq_iff_iff]; simpa using hr)
    clear HI hr
    go_wp2
    go_ret
    exact ⟨ret8 HR.out, rfl⟩
  have HC := hid8 hcon
  have HB := hid8 b2
  clear hcon HI k0 k1 k0' hs hn b2
  go_enter Tryz.func75, Tryz.ntmps75
  go_wp2_with fail
  refine HC.out.mono ?_
  rintro e w' ⟨rfl, rfl⟩
  clear HC
  go_wp2
  go_ret
  exact ⟨rfl, HB.out⟩
end Go.Proofs.YthfcjfhaoabdeaaGreatDoor
