/-
  What the document's own Frame does.
-/
import Derived.Test.YtaibldodlbaknaaG1
set_option linter.unusedVariables false
set_option linter.unusedSimpArgs false
namespace Go.Proofs.Ytaibldodlbaknaa
open Go.RowKit

/-- A block with a piece in it. -/
theorem piece_row (kd : Int) (p : List Int) (hp : p.length ≤ 31) : ((List.replicate 32 (0 : Int)).set 0 kd).take 1 ++ p ++ ((List.replicate 32 (0 : Int)).set 0 kd).drop (1 + p.length) = kd :: (p ++ List.replicate (31 - p.length) 0) := by
  rw [show List.replicate 32 (0 : Int) = 0 :: List.replicate 31 0 from rfl, List.set_cons_zero, Nat.add_comm 1]
  simp only [List.take_succ_cons, List.take_zero, List.drop_succ_cons, List.drop_replicate, List.singleton_append, List.cons_append, List.nil_append]

theorem madeRowK (w : World) (kd : Int) : Row (w.alloc (.cells ((madeCells #[.int .u8 0] 32).setIfInBounds 0 (.int .u8 kd)) 5)) w.heap.size ((List.replicate 32 (0 : Int)).set 0 kd) := by
  unfold Row
  rw [heap_alloc_new]
  congr 2
  apply Array.toList_inj.1
  rw [Array.toList_setIfInBounds, toList_madeCells_one]
  simp [bc]

/-- What a round makes: the block, with its kind and its piece. -/
theorem block_made {w8 wr wc : World} {g : Nat} {kd : Int} {ap : Option Addr} {m cp : Nat} {p : List Int} (hb : Below w8.heap.size w8 wr) (hg : g = wr.heap.size) (hrow : Row wc g ((List.replicate 32 (0 : Int)).set 0 kd)) (hk : 0 ≤ kd ∧ kd ≤ 255) (hc : Below wr.heap.size wr wc) (hsl : Sl w8 ap m cp p) (hm : m ≤ 31) :
    ∃ wd, (Builtin.copy_ #[22, 22] 3 #[.slice (some ⟨g, 1, none⟩) 31 31, .slice ap m cp]).run Try.prog wc.drew = .ok (.int .i64 (m : Int)) wd ∧ Sl wd (some ⟨g, 0, none⟩) 32 32 (kd :: (p ++ List.replicate (31 - p.length) 0)) ∧ Below wr.heap.size wr wd := by
  have hpl := hsl.1
  have hb8 : Below w8.heap.size w8 wc.drew := below_drewN (hb.trans (hc.mono hb.size)) 1
  obtain ⟨wd, h1, h2, h3, h4⟩ := Row.copy (w := wc.drew) (P := Try.prog) hrow (hsl.below hb8) 22 Try.underlying22 (by kernel_rfl) 3 1 31 31 hm (by simp; omega)
  rw [← hpl, piece_row kd p (by omega)] at h2
  refine ⟨wd, h1, ?_, (below_drewN hc 1).trans (gB h3 (by omega) (below_drewN hc 1).size)⟩
  have hl : (kd :: (p ++ List.replicate (31 - p.length) 0)).length = 32 := by simp; omega
  have hbb : Byt (kd :: (p ++ List.replicate (31 - p.length) 0)) := Byt.cons hk (hsl.2.2.2.1.append fun y hy => by
    have := List.eq_of_mem_replicate hy
    omega)
  have := h2.sl hbb 32 (by omega) (by rw [hl]; unfold maxLen; omega)
  rw [hl, List.take_of_length_le (by omega)] at this
  exact this

set_option maxHeartbeats 4000000 in
theorem frame_any (ao : Option Addr) (len cap : Nat) (body : List Int) (seq : Int) (w : World) (h : Sl w ao len cap body) (h0 : 0 ≤ seq) (h1 : seq ≤ 18446744073709551615) (hl : len ≤ 65536) :
    Calls Try.prog 24 #[.int .u64 seq, .slice ao len cap] w fun e w' => ∃ v', e = .returned v' ∧ Own w' w.heap.size v' (fra seq.toNat body) ∧ Below w.heap.size w w' := by
  obtain ⟨i0, hi, hz0, hz1, hz2⟩ := info_parts Try.info5
  have hx := h.1
  have hbyt := h.2.2.2.1
  have hst : Hid (st seq.toNat body = sm (sm (hd seq.toNat len) ++ body)) := by unfold Hid st; rw [hx]
  have hfr : Hid (fra seq.toNat body = lay (nb len) 161 (st seq.toNat body)) := by unfold Hid fra; rw [hx]
  have hstl : (st seq.toNat body).length = len + 20 := by rw [st_len, hx]
  have hstb := st_byt seq.toNat hbyt
  go_enter Try.func24, Try.ntmps24
  go_wp2_with fail
  refine (refNumber_any seq 8 w h0 h1 (by omega)).mono ?_
  rintro e w1 ⟨v1, rfl, hown1, hb1⟩
  go_wp2_with fail
  refine (refNumber_any (len : Int) 4 w1 (by omega) (by omega) (by omega)).mono ?_
  rintro e w2 ⟨v2, rfl, hown2, hb2⟩
  have hown1' := hown1.up hb2
  have hb02 : Below w.heap.size w w2 := hb1.trans (hb2.mono hb1.size)
  obtain ⟨a2, l2, c2, rfl, hsl2, _⟩ := hown2.sl' (lo_byt _ _)
  have hl2 : l2 = 4 := by have := hsl2.1; rw [lo_len] at this; omega
  have hs2 := hb02.size
  have hl8 : (lo 8 seq.toNat).length = 8 := lo_len _ _
  subst hl2
  clear hown1 hown2 hb1 hb2
  go_wp2_with (first | (at_builtin; refine wpList_append_sl rfl _ _ 22 rfl w.heap.size i0 Try.underlying22 hi hz0 hz1 hz2 _ _ rfl hown1' a2 4 c2 _ rfl hsl2 (by omega) hs2 ?_) | fail)
  intro v3 w3 hown3 hb3
  try rw [Int.toNat_natCast] at hown3
  replace hown3 : Own w3 w.heap.size v3 (hd seq.toNat len) := hown3
  have hb03 := hb02.trans hb3
  obtain ⟨a3, l3, c3, rfl, hsl3, _⟩ := hown3.sl' (hd_byt _ _)
  have hc3 := crc_lt (hd_byt seq.toNat len)
  clear hown1' hsl2 hb02 hb3 hs2
  go_wp2_with fail
  refine (refCrc_any a3 l3 c3 _ w3 hsl3).mono ?_
  rintro e w3' ⟨rfl, rfl⟩
  go_wp2_with fail
  refine (refNumber_any ((crc (hd seq.toNat len) : Nat) : Int) 4 w3' (by omega) (by omega) (by omega)).mono ?_
  rintro e w4 ⟨v4, rfl, hown4, hb4⟩
  try rw [Int.toNat_natCast] at hown4
  have hown3' := hown3.up hb4
  have hb04 := hb03.trans (hb4.mono hb03.size)
  obtain ⟨a4, l4, c4, rfl, hsl4, _⟩ := hown4.sl' (lo_byt _ _)
  have hl4 : l4 = 4 := by have := hsl4.1; rw [lo_len] at this; omega
  have hs4 := hb04.size
  have hl12 := hd_len seq.toNat len
  subst hl4
  clear hown3 hown4 hb03 hb4 hsl3
  go_wp2_with (first | (at_builtin; refine wpList_append_sl rfl _ _ 22 rfl w.heap.size i0 Try.underlying22 hi hz0 hz1 hz2 _ _ rfl hown3' a4 4 c4 _ rfl hsl4 (by omega) hs4 ?_) | fail)
  intro v5 w5 hown5 hb5
  replace hown5 : Own w5 w.heap.size v5 (sm (hd seq.toNat len)) := hown5
  have hb05 := hb04.trans hb5
  have hs5 := hb05.size
  have hsl5 := h.below hb05
  have hl16 : (sm (hd seq.toNat len)).length = 16 := by rw [sm_len, hl12]
  clear hown3' hsl4 hb04 hb5 hs4 h
  go_wp2_with (first | (at_builtin; refine wpList_append_sl rfl _ _ 22 rfl w.heap.size i0 Try.underlying22 hi hz0 hz1 hz2 _ _ rfl hown5 ao len cap _ rfl hsl5 (by omega) hs5 ?_) | fail)
  intro v6 w6 hown6 hb6
  have hb06 := hb05.trans hb6
  have hs6 := hb06.size
  have byt6 : Byt (sm (hd seq.toNat len) ++ body) := (sm_byt (hd_byt _ _)).append hbyt
  have hc6 := crc_lt byt6
  have hl6 : (sm (hd seq.toNat len) ++ body).length = len + 16 := by rw [List.length_append, hl16, hx]; omega
  obtain ⟨a6, l6, c6, rfl, hsl6, _⟩ := hown6.sl' byt6
  clear hown5 hb05 hb6 hsl5 hs5
  generalize hT : sm (hd seq.toNat len) ++ body = T at *
  go_wp2_with fail
  refine (refCrc_any a6 l6 c6 _ w6 hsl6).mono ?_
  rintro e w6' ⟨rfl, rfl⟩
  go_wp2_with fail
  refine (refNumber_any ((crc T : Nat) : Int) 4 w6' (by omega) (by omega) (by omega)).mono ?_
  rintro e w7 ⟨v7, rfl, hown7, hb7⟩
  try rw [Int.toNat_natCast] at hown7
  have hown6' := hown6.up hb7
  have hb07 := hb06.trans (hb7.mono hs6)
  obtain ⟨a7, l7, c7, rfl, hsl7, _⟩ := hown7.sl' (lo_byt _ _)
  have hl7 : l7 = 4 := by have := hsl7.1; rw [lo_len] at this; omega
  have hs7 := hb07.size
  subst hl7
  clear hown6 hown7 hb06 hb7 hsl6
  go_wp2_with (first | (at_builtin; refine wpList_append_sl rfl _ _ 22 rfl w.heap.size i0 Try.underlying22 hi hz0 hz1 hz2 _ _ rfl hown6' a7 4 c7 _ rfl hsl7 (by omega) hs7 ?_) | fail)
  intro v8 w8 hown8 hb8
  have hb08 := hb07.trans hb8
  have hown9 : Own w8 w.heap.size v8 (st seq.toNat body) := by
    rw [hst.out]
    exact hown8
  obtain ⟨a8, l8, c8, rfl, hsl8, _⟩ := hown9.sl' hstb
  obtain rfl : l8 = len + 20 := by have := hsl8.1; omega
  clear hown6' hsl7 hb07 hb8 hs7 hown8 hown9 hT hl6 byt6 hc6 hl16 hl12 hc3 hl8
  have hge := nb_ge len
  have hlt := nb_lt len
  generalize st seq.toNat body = s at *
  generalize hK : nb len = K at *
  replace hK := hF hK
  have hmk : ∀ u : World, (Instr.makeSlice 22 (.int .i64 32) (.int .i64 32)).run Try.prog u = .ok (.slice (some ⟨u.heap.size, 0, none⟩) 32 32) (u.alloc (.cells (madeCells #[.int .u8 0] 32) 5)) := by
    intro u
    have := run_make (P := Try.prog) u 22 5 i0 (.int .u8 0) Try.underlying22 hi hz0 .i64 .i64 32 32 (by omega) (by omega) (by rw [hz2]; omega) (by omega)
    rw [this, hz1]
    rfl
  go_wp2
  go_loopw [6, 7, 8] (fun v i _ wr => ∃ j I : Nat, Hid (I = 31 * j) ∧ j ≤ K ∧ i = .int .i64 (I : Int) ∧ Own wr w8.heap.size v (lay j 161 s) ∧ Below w8.heap.size w8 wr) (fun _ i _ _ => len + 100 - (intOf i).toNat)
  case atStart => exact ⟨0, 0, rfl, by omega, rfl, World.ownsRow_nil _ _ _ _, Below.refl _ _⟩
  case round =>
    obtain ⟨j, I, hI, hj, rfl, hown, hbel⟩ := hrel
    have hI' := hI.out
    have hszr := hbel.size
    by_cases hlt : I < len + 20
    · have hjK : j < K := by omega
      have hlti : (I : Int) < (len : Int) + 20 := by omega
      obtain ⟨E, hE⟩ : ∃ E, E = min (I + 31) (len + 20) := ⟨_, rfl⟩
      have hpart := hsl8.part (P := Try.prog) 22 Try.underlying22 Try.size5 I E (by omega) (by omega)
      obtain ⟨ap, hsp, hslp⟩ := hpart
      have hpe : (s.take E).drop I = (s.drop (31 * j)).take 31 := by
        rw [List.drop_take, hI']
        by_cases hc : I + 31 ≤ len + 20
        · rw [show E - 31 * j = 31 from by omega]
        · rw [List.take_of_length_le (by simp; omega), List.take_of_length_le (by simp; omega)]
      rw [hpe] at hslp
      have hm31 : E - I ≤ 31 := by omega
      have hs1 := slice_l (P := Try.prog) 22 Try.underlying22 Try.size5 (some ⟨wr.heap.size, 0, none⟩) 32 32 1 (by omega)
      rw [sliced_at _ _ _ _ _ (by omega)] at hs1
      replace hs1 : ∀ u : World, (Instr.slice 22 (.slice (some ⟨wr.heap.size, 0, none⟩) 32 32) (some (.int .i64 1)) none none).run Try.prog u = .ok (.slice (some ⟨wr.heap.size, 1, none⟩) 31 31) u := hs1
      have hlj := lay_len j 161 s
      have hpl := hslp.1
      have hI1 : Hid (I + 31 = 31 * (j + 1)) := by unfold Hid; omega
      obtain ⟨kd, hkd⟩ : ∃ kd : Int, kd = if j = 0 then 161 else 178 := ⟨_, rfl⟩
      have hkb : 0 ≤ kd ∧ kd ≤ 255 := by rw [hkd]; split <;> decide
      obtain ⟨wB, hwB⟩ : ∃ wB, wB = wr.alloc (.cells ((madeCells #[.int .u8 0] 32).setIfInBounds 0 (.int .u8 kd)) 5) := ⟨_, rfl⟩
      have hrowB := madeRowK wr kd
      have hbB : Below wr.heap.size wr wB := by rw [hwB]; exact (Below.refl _ _).alloc (Nat.le_refl _) _
      rw [← hwB] at hrowB
      have hcA := (madeRow wr 32).cell 0 (by simp)
      have hfA := (madeRow wr 32).free 0
      rw [show (List.replicate 32 (0 : Int)).getD 0 0 = 0 from rfl] at hcA
      have hcB := (madeRowK wr 178).cell 0 (by simp)
      have hfB := (madeRowK wr 178).free 0
      rw [show ((List.replicate 32 (0 : Int)).set 0 178).getD 0 0 = 178 from rfl] at hcB
      have hsp1 : Hid (I + 31 ≤ len + 20 → ∀ u : World, (Instr.slice 22 (.slice a8 (len + 20) c8) (some (.int .i64 (I : Int))) (some (.int .i64 ((I : Int) + 31))) none).run Try.prog u = .ok (.slice ap (E - I) (c8 - I)) u) := fun hc u => by
        have := hsp u
        rw [hE, Nat.min_eq_left hc] at this
        rw [hE, Nat.min_eq_left hc]
        exact this
      have hsp2 : Hid (¬ I + 31 ≤ len + 20 → ∀ u : World, (Instr.slice 22 (.slice a8 (len + 20) c8) (some (.int .i64 (I : Int))) (some (.int .i64 ((len : Int) + 20))) none).run Try.prog u = .ok (.slice ap (E - I) (c8 - I)) u) := fun hc u => by
        have := hsp u
        rw [hE, Nat.min_eq_right (by omega)] at this
        rw [hE, Nat.min_eq_right (by omega)]
        exact this
      clear hsp
      generalize hcc : c8 - I = cc at *
      generalize hmm : E - I = m at *
      replace hcc := hF hcc
      replace hmm := hF hmm
      obtain ⟨wd, hcp, hsld, hbd⟩ := block_made hbel rfl hrowB hkb hbB hslp hm31
      obtain ⟨Z, hZ⟩ : ∃ Z, Z = kd :: ((s.drop (31 * j)).take 31 ++ List.replicate (31 - ((s.drop (31 * j)).take 31).length) 0) := ⟨_, rfl⟩
      rw [← hZ] at hsld
      have hlay : Hid (∀ (wd : World) (v' : Value), Own wd w8.heap.size v' (lay j 161 s ++ Z) → Own wd w8.heap.size v' (lay (j + 1) 161 s)) := fun wd v' ho => by
        rw [lay_snoc, ← hkd, ← hZ]
        exact ho
      clear hZ
      have hownd := hown.up hbd
      have hb8d : Below w8.heap.size w8 wd := hbel.trans (hbd.mono hszr)
      have hsd := hb8d.size
      have hjI : j = 0 ↔ I = 0 := by omega
      replace hwB := hF hwB
      replace hpe := hF hpe
      replace hI' := hF hI'
      replace hE := hF hE
      replace hpl := hF hpl
      have hlj2 : (lay j 161 s).length + 32 ≤ 140737488355328 := by rw [hlj]; omega
      replace hlj := hF hlj
      clear hrowB hbB hbd hslp hown hbel
      by_cases hj0 : j = 0
      · have hI0 : I = 0 := hjI.1 hj0
        subst hj0
        subst hI0
        have ek : kd = 161 := by rw [hkd]; rfl
        subst ek
        clear hkd hjI
        by_cases hc : 0 + 31 ≤ len + 20
        · have hci : (31 : Int) ≤ (len : Int) + 20 := by omega
          have hsp := hsp1.out hc
          simp only [Int.ofNat_zero, Int.zero_add] at hsp
          clear hsp1 hsp2
          go_wp2
          all_goals
            rw [← hwB.out]
            go_region
            go_wp2_with (first | (at_builtin; refine wpList_append_sl rfl _ _ 22 rfl w8.heap.size i0 Try.underlying22 hi hz0 hz1 hz2 _ _ rfl hownd (some ⟨wr.heap.size, 0, none⟩) 32 32 _ rfl hsld hlj2 hsd ?_) | fail)
            intro v' we howne hbe
            have hbf := hb8d.trans hbe
            have hownf := hlay.out we v' howne
            clear hownd hsld hbe howne hcp hb8d
            go_wp2
            go_roundw
            case rel => exact ⟨0 + 1, 0 + 31, rfl, by omega, by go_num, hownf, hbf⟩
            case measure => simp [intOf] <;> omega
        · have hci : ¬ (31 : Int) ≤ (len : Int) + 20 := by omega
          have hci2 : (len : Int) + 20 ≤ 31 := by omega
          have hci3 : (len : Int) + 20 < 31 := by omega
          have hsp : ∀ u : World, (Instr.slice 22 (.slice a8 (len + 20) c8) (some (.int .i64 0)) (some (.int .i64 ((len : Int) + 20))) none).run Try.prog u = .ok (.slice ap m cc) u := hsp2.out hc
          clear hsp1 hsp2
          go_wp2
          all_goals
            rw [← hwB.out]
            go_region
            go_wp2_with (first | (at_builtin; refine wpList_append_sl rfl _ _ 22 rfl w8.heap.size i0 Try.underlying22 hi hz0 hz1 hz2 _ _ rfl hownd (some ⟨wr.heap.size, 0, none⟩) 32 32 _ rfl hsld hlj2 hsd ?_) | fail)
            intro v' we howne hbe
            have hbf := hb8d.trans hbe
            have hownf := hlay.out we v' howne
            clear hownd hsld hbe howne hcp hb8d
            go_wp2
            go_roundw
            case rel => exact ⟨0 + 1, 0 + 31, rfl, by omega, by go_num, hownf, hbf⟩
            case measure => simp [intOf] <;> omega
      · have hIi : ¬ (I : Int) = 0 := fun e => hj0 (hjI.2 (by omega))
        have hIb : ((I : Int) == 0) = false := by simpa using hIi
        have ek : kd = 178 := by rw [hkd, if_neg hj0]
        subst ek
        clear hjI hkd
        by_cases hc : I + 31 ≤ len + 20
        · have hci : (I : Int) + 31 ≤ (len : Int) + 20 := by omega
          have hsp := hsp1.out hc
          clear hsp1 hsp2
          go_wp2
          all_goals
            rw [← hwB.out]
            go_region
            go_wp2_with (first | (at_builtin; refine wpList_append_sl rfl _ _ 22 rfl w8.heap.size i0 Try.underlying22 hi hz0 hz1 hz2 _ _ rfl hownd (some ⟨wr.heap.size, 0, none⟩) 32 32 _ rfl hsld hlj2 hsd ?_) | fail)
            intro v' we howne hbe
            have hbf := hb8d.trans hbe
            have hownf := hlay.out we v' howne
            clear hownd hsld hbe howne hcp hb8d
            go_wp2
            go_roundw
            case rel => exact ⟨j + 1, I + 31, hI1, by omega, by go_num, hownf, hbf⟩
            case measure => simp [intOf] <;> omega
        · have hci : ¬ (I : Int) + 31 ≤ (len : Int) + 20 := by omega
          have hci2 : (len : Int) + 20 ≤ (I : Int) + 31 := by omega
          have hci3 : (len : Int) + 20 < (I : Int) + 31 := by omega
          have hci4 : min ((I : Int) + 31) ((len : Int) + 20) = (len : Int) + 20 := by omega
          have hci5 : decide ((len : Int) + 20 < (I : Int) + 31) = true := by simp; omega
          have hci6 : decide ((I : Int) + 31 ≤ (len : Int) + 20) = false := by simp; omega
          have hsp := hsp2.out hc
          clear hsp1 hsp2
          go_wp2
          all_goals
            rw [← hwB.out]
            go_region
            go_wp2_with (first | (at_builtin; refine wpList_append_sl rfl _ _ 22 rfl w8.heap.size i0 Try.underlying22 hi hz0 hz1 hz2 _ _ rfl hownd (some ⟨wr.heap.size, 0, none⟩) 32 32 _ rfl hsld hlj2 hsd ?_) | fail)
            intro v' we howne hbe
            have hbf := hb8d.trans hbe
            have hownf := hlay.out we v' howne
            clear hownd hsld hbe howne hcp hb8d
            go_wp2
            go_roundw
            case rel => exact ⟨j + 1, I + 31, hI1, by omega, by go_num, hownf, hbf⟩
            case measure => simp [intOf] <;> omega
    · have hjK : j = K := by omega
      have hlti : ¬ (I : Int) < (len : Int) + 20 := by omega
      have hfin : Below w.heap.size w wr := hb08.trans (hbel.mono hb08.size)
      have hownf : Hid (Own wr w.heap.size u6 (fra seq.toNat body)) := by
        unfold Hid
        rw [hfr.out, ← hjK]
        exact hown.weak hb08.size
      clear hown hbel hjK hI'
      go_wp2
      go_ret
      exact ⟨_, rfl, hownf.out, hfin⟩
end Go.Proofs.Ytaibldodlbaknaa
