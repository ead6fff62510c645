/-
  What the laws' own 'put' and 'begin' do.
-/
import Derived.Test.YtaibldodlbaknaaH1
import Derived.Test.YtaibldodlbaknaaF13
set_option linter.unusedVariables false
set_option linter.unusedSimpArgs false
namespace Go.Proofs.Ytaibldodlbaknaa
open Go.RowKit

theorem Try.info3 : (Try.prog.info? 3).map (fun i => (i.zero, i.size, i.bytes)) = some (some (.int .i64 0), 1, 8) := by kernel_rfl
theorem one_i64 (x : Int) : ∀ u ∈ [Value.int .i64 x], u.oneCell' = true := by intro u hu; simp at hu; subst hu; rfl

/-- Where the frames end, as cells. -/
def enC (ps : List (List Int)) (k : Nat) : List Value := (List.range k).map fun j => .int .i64 ((eo (ps.take (j + 1)) : Nat) : Int)
theorem enC_snoc (ps : List (List Int)) (k : Nat) : enC ps (k + 1) = enC ps k ++ [.int .i64 ((eo (ps.take (k + 1)) : Nat) : Int)] := by simp [enC, List.range_succ]
/-- A slice of the ends. -/
def En (w : World) (base : Nat) (v : Value) (ps : List (List Int)) (k : Nat) : Prop := w.ownsRow base 3 1 v k (enC ps k)
theorem En.up {w w' : World} {base k : Nat} {v : Value} {ps : List (List Int)} (h : En w base v ps k) (hb : Below w.heap.size w w') : En w' base v ps k := by
  refine World.ownsRow.kept h (row := none) ⟨hb.os, hb.tape, hb.output, hb.size, fun k hk _ => hb.block k hk⟩ ?_
  cases hv : v.ownBlock <;> simp
theorem take_getD (ps : List (List Int)) (i : Nat) (h : i < ps.length) : ps.take (i + 1) = ps.take i ++ [ps.getD i []] := by
  rw [List.take_succ_eq_append_getElem h]
  simp [List.getD, List.getElem?_eq_getElem h]
theorem Okb.snoc {bs : List (List Int)} {b : List Int} (h : Okb bs) (h1 : b.length ≤ 65536) (h2 : Byt b) : Okb (bs ++ [b]) := fun c hc => by
  rcases List.mem_append.1 hc with hc | hc
  · exact h c hc
  · simp at hc
    subst hc
    exact ⟨h1, h2⟩

/-- Rows of two kinds are two rows. -/
theorem own_ne {w : World} {b1 b2 e1 e2 s1 s2 n1 n2 : Nat} {v1 v2 : Value} {c1 c2 : List Value} (h1 : w.ownsRow b1 e1 s1 v1 n1 c1) (h2 : w.ownsRow b2 e2 s2 v2 n2 c2) (he : e1 ≠ e2) : v1.ownBlock = none ∨ v1.ownBlock ≠ v2.ownBlock := by
  rcases h1.2 with ⟨rfl, _⟩ | ⟨g1, k1, cur1, rfl, _, hh1, _⟩
  · exact .inl rfl
  · right
    rcases h2.2 with ⟨rfl, _⟩ | ⟨g2, k2, cur2, rfl, _, hh2, _⟩
    · simp [Value.ownBlock]
    · intro e
      simp only [Value.ownBlock, Option.some.injEq] at e
      subst e
      rw [hh1] at hh2
      simp at hh2
      exact he hh2.2

/-- What 'put' leaves and answers. -/
def LpR (w : World) (F : Nat) (ps : List (List Int)) (m : Nat) (e : Ending) (w' : World) : Prop :=
  (Okb (ps.take m) ∧ ∃ v ve, e = .returned (.tuple #[v, ve, .bool true]) ∧ Own w' w.heap.size v (fras F (ps.take m)) ∧ En w' w.heap.size ve ps m) ∨
  ((∃ i, i < m ∧ 65536 < (ps.getD i []).length) ∧ e = .returned (.tuple #[.slice none 0 0, .slice none 0 0, .bool false]))

set_option maxHeartbeats 4000000 in
theorem lput_any (ao : Option Addr) (len cap : Nat) (ps : List (List Int)) (F : Nat) (most : Nat) (w : World) (h : Pl w ao len cap ps) (hF0 : F < 18446744073709551616) (hmo : most ≤ 20) :
    Calls Try.prog 19 #[.int .u64 (F : Int), .slice ao len cap, .int .i64 (most : Int)] w fun e w' => LpR w F ps (min len most) e w' ∧ Below w.heap.size w w' := by
  obtain ⟨i0, hi, hz0, hz1, hz2⟩ := info_parts Try.info3
  have hpl := h.1
  have hlen : (len : Int) ≤ 9223372036854775807 := by have := h.2.1; have := h.2.2.1; unfold maxLen at this; omega
  obtain ⟨B, hB⟩ : ∃ B, B = w.heap.size := ⟨_, rfl⟩
  have hb0 : Below B w w := Below.refl _ _
  have ho0 : Okb (ps.take 0) := fun c hc => by simp at hc
  obtain ⟨m, hm⟩ : ∃ m, m = min len most := ⟨_, rfl⟩
  replace hB := hF hB
  rw [← hm]
  have hml : m ≤ len := by omega
  have hmm : m ≤ most := by omega
  have hmx : ∀ i, i < m ↔ i < len ∧ i < most := by omega
  replace hm := hF hm
  replace hmx := hF hmx
  go_enter Try.func19, Try.ntmps19
  go_wp2
  go_loopw [9, 10, 11, 12, 13] (fun v ve i _ _ wr => ∃ k : Nat, k ≤ m ∧ i = .int .i64 (k : Int) ∧ Hid (Okb (ps.take k)) ∧ Own wr B v (fras F (ps.take k)) ∧ En wr B ve ps k ∧ Below B w wr) (fun _ _ i _ _ _ => 64 - (intOf i).toNat)
  case atStart => exact ⟨0, by omega, rfl, ho0, World.ownsRow_nil _ _ _ _, World.ownsRow_nil _ _ _ _, hb0⟩
  case round =>
    obtain ⟨k, hk, rfl, hok, hown, hen, hbel⟩ := hrel
    have hsB : B ≤ wr.heap.size := by rw [hB.out]; exact hbel.size
    by_cases hlt : k < m
    · obtain ⟨hk1, hk2⟩ := (hmx.out k).1 hlt
      have hk1i : (k : Int) < (len : Int) := by omega
      have hk2i : (k : Int) < (most : Int) := by omega
      have hkd1 : decide ((k : Int) < (len : Int)) = true := by simp; omega
      have hkd2 : decide ((k : Int) < (most : Int)) = true := by simp; omega
      have hkd3 : decide (k < len) = true := by simp; omega
      have hkd4 : decide (k < most) = true := by simp; omega
      have hpw := h.below (w' := wr) (by rw [← hB.out]; exact hbel)
      obtain ⟨b, off, e0, hblt, hcell⟩ := hpw.2.2.2 (by omega)
      obtain ⟨a2, l2, c2, hc2, hs2⟩ := hcell k hk1
      have htk := hF (take_getD ps k (by omega))
      have hgd : Hid (ps.getD k [] = ps.getD k []) := rfl
      obtain ⟨q, hq⟩ : ∃ q, q = ps.getD k [] := ⟨_, rfl⟩
      rw [← hq] at hs2
      have hbe := eo_bound _ hok.out
      have hbl : (ps.take k).length = k := by simp; omega
      have hfl := fras_len F (ps.take k)
      have hfb := fras_byt F _ hok.out
      have h32 := eo_32 (ps.take k)
      have hsq : Hid (((F : Int) + (k : Int)) % 18446744073709551616 = (((F + k) % 18446744073709551616 : Nat) : Int)) := by unfold Hid; omega
      obtain ⟨av, lv, cv, rfl, hslv, _⟩ := hown.sl' hfb
      have hlv : lv = eo (ps.take k) := by rw [← hslv.1, hfl]
      have hql := hs2.1
      have hqb := hs2.2.2.2.1
      have hseq : ((((F + k) % 18446744073709551616 : Nat) : Int)) ≤ 18446744073709551615 := by omega
      have hput := put_any av lv cv (fras F (ps.take k)) ((((F + k) % 18446744073709551616 : Nat) : Int)) a2 l2 c2 q wr hslv hs2 (by omega) hseq (by omega)
      rw [Int.toNat_natCast] at hput
      have hsn : Hid (fras F (ps.take (k + 1)) = fras F (ps.take k) ++ fra ((F + k) % 18446744073709551616) q) := by
        unfold Hid
        rw [htk.out, fras_snoc F _ _ hF0, hbl, hq]
      have hptE : ptE (fras F (ps.take k)) q = if 65536 < l2 then 40 else 0 := by
        unfold ptE
        rw [if_neg (by rw [hfl]; omega), hql]
      subst e0
      replace hq := hF hq
      replace hlv := hF hlv
      clear hcell hpw hbl hbe hown
      by_cases hbig : 65536 < l2
      · rw [if_pos hbig] at hptE
        have HX : Hid (∃ i, i < m ∧ 65536 < (ps.getD i []).length) := ⟨k, hlt, by rw [← hq.out]; omega⟩
        replace hput := hF hput
        replace hptE := hF hptE
        clear hsn
        go_wp2_with fail
        try rw [hsq.out]
        refine hput.out.mono ?_
        rintro e w1 ⟨⟨v1, rfl, hown1⟩, hb1⟩
        have hb01 : Below B w w1 := hbel.trans (hb1.mono hsB)
        rw [hptE.out]
        clear hput hb1 hbel hown1 hptE
        go_wp2
        go_ret3
        exact ⟨.inr ⟨HX.out, rfl⟩, by rw [← hB.out]; exact hb01⟩
      · rw [if_neg hbig] at hptE
        have hok1 : Hid (Okb (ps.take (k + 1))) := by
          unfold Hid
          rw [htk.out]
          exact hok.out.snoc (by rw [← hq.out]; omega) (by rw [← hq.out]; exact hqb)
        have hptV : Hid (ptV ((F + k) % 18446744073709551616) (fras F (ps.take k)) q = fras F (ps.take (k + 1))) := by
          unfold Hid ptV
          rw [hptE, if_pos rfl, hsn.out]
        have hbe1 := eo_bound _ hok1.out
        have hbl1 : (ps.take (k + 1)).length = k + 1 := by simp; omega
        have hfl1 := fras_len F (ps.take (k + 1))
        have hfb1 := fras_byt F _ hok1.out
        rw [hbl1] at hbe1
        replace hput := hF hput
        replace hptE := hF hptE
        go_wp2_with fail
        try rw [hsq.out]
        refine hput.out.mono ?_
        rintro e w1 ⟨⟨v1, rfl, hown1⟩, hb1⟩
        have hb01 : Below B w w1 := hbel.trans (hb1.mono hsB)
        rw [hptV.out] at hown1
        have hown2 := hown1.weak hsB
        have hen1 := hen.up hb1
        rw [hptE.out]
        obtain ⟨a3, l3, c3, rfl, hsl3, _⟩ := hown2.sl' hfb1
        have hl3 : Hid (l3 = eo (ps.take (k + 1))) := by unfold Hid; rw [← hsl3.1, hfl1]
        have hs1 : B ≤ w1.heap.size := Nat.le_trans hsB hb1.size
        have hown3 := hF hown2
        have hbel1 := hb01
        clear hput hb1 hbel hown1 hptE hown2 hen hsl3 hptV hfl1 hfb1 hbl1 hslv hs2 hc2
        go_wp2_with (at_builtin; refine wpList_append_own _ rfl _ _ 39 rfl B 3 i0 (.int .i64 0) 1 8 Try.underlying39 hi hz0 hz1 hz2 rfl (by decide) _ _ _ rfl (World.ownsRow.alloc hen1 _) ⟨w1.heap.size, 0, none⟩ 1 1 [.int .i64 (l3 : Int)] rfl rfl (cell_one_new _ _ _) (one_i64 _) (by unfold maxLen; omega) (by omega) (by simp; omega) ?_)
        intro v' w2 hown' hgrow _
        have hrowA := World.ownsRow.alloc hen1 (.cells #[.int .i64 (l3 : Int)] 3)
        have hownA := World.ownsRow.alloc hown3.out (.cells #[.int .i64 (l3 : Int)] 3)
        have hown4 : Own w2 B (.slice a3 l3 c3) (fras F (ps.take (k + 1))) := World.ownsRow.kept hownA hgrow (own_ne hownA hrowA (by decide))
        have hen2 : En w2 B v' ps (k + 1) := by
          unfold En
          rw [enC_snoc, ← hl3.out]
          exact hown'
        have hb2 : Below B w w2 := (hb01.alloc (by omega) _).trans ((Below.refl _ _).grown hgrow (by simp; omega) fun j hj => (World.ownsRow.lt hrowA j hj).1)
        replace hown4 := hF hown4
        replace hen2 := hF hen2
        clear hown' hgrow hrowA hownA hown3 hen1 hb01 hbel1
        go_wp2
        go_roundw
        case rel => exact ⟨k + 1, by omega, by go_num, hok1, hown4.out, hen2.out, hb2⟩
        case measure => simp [intOf]; omega
    · have hlti : ¬ ((k : Int) < (len : Int) ∧ (k : Int) < (most : Int)) := by
        intro q
        exact hlt ((hmx.out k).2 ⟨by omega, by omega⟩)
      have hkm : k = m := by omega
      rw [hkm] at hown hen hok
      replace hown := hF hown
      replace hen := hF hen
      replace hkm := hF hkm
      have hfin : Below w.heap.size w wr := by rw [← hB.out]; exact hbel
      by_cases hkl : k < len
      · have hk2i : ¬ (k : Int) < (most : Int) := by omega
        have hk1i : (k : Int) < (len : Int) := by omega
        have hkd1 : decide ((k : Int) < (len : Int)) = true := by simp; omega
        have hkd2 : decide ((k : Int) < (most : Int)) = false := by simp; omega
        have hkd3 : decide (k < len) = true := by simp; omega
        have hkd4 : decide (k < most) = false := by simp; omega
        clear hlti
        go_wp2
        go_ret3
        exact ⟨.inl ⟨hok.out, _, _, rfl, by rw [← hB.out]; exact hown.out, by rw [← hB.out]; exact hen.out⟩, hfin⟩
      · have hk1i : ¬ (k : Int) < (len : Int) := by omega
        have hkd1 : decide ((k : Int) < (len : Int)) = false := by simp; omega
        have hkd3 : decide (k < len) = false := by simp; omega
        clear hlti
        go_wp2
        go_ret3
        exact ⟨.inl ⟨hok.out, _, _, rfl, by rw [← hB.out]; exact hown.out, by rw [← hB.out]; exact hen.out⟩, hfin⟩

set_option maxHeartbeats 2000000 in
/-- begin: the first of those. -/
theorem begin_any (base : Nat) (ao : Option Addr) (len cap : Nat) (ps bs : List (List Int)) (k : Nat) (v : Value) (w : World) (h : Pl w ao len cap ps) (hB : Bs w base v bs) (hk : bs = ps.take k) :
    Calls Try.prog 20 #[v, .slice ao len cap] w fun e w' => e = .returned (.bool true) ∧ ∃ q, w' = w.drewN q := by
  have hpl := h.1
  have hlen : (len : Int) ≤ 9223372036854775807 := by have := h.2.1; have := h.2.2.1; unfold maxLen at this; omega
  obtain ⟨av, cv, rfl⟩ := hB.len
  have hbl : bs.length ≤ len := by rw [hk]; simp; omega
  obtain ⟨cs, G, q1, q2, q3⟩ := hB
  have hcell : Hid (∀ i, i < bs.length → ∃ g u, av = some ⟨g, 0, none⟩ ∧ w.cell? ⟨g, i, none⟩ = some u ∧ ∃ a2 c2, u = .slice a2 (bs.getD i []).length c2 ∧ Sl w a2 (bs.getD i []).length c2 (bs.getD i [])) := fun i hi => by
    obtain ⟨u, e, hd⟩ := q2 i hi
    rcases q1.2 with ⟨_, h0⟩ | ⟨g, cap2, cur, e2, _⟩
    · omega
    · simp only [Value.slice.injEq, true_and] at e2
      obtain ⟨rfl, rfl⟩ := e2
      obtain ⟨_, _, a2, c2, rfl, hsl, _⟩ := hd
      refine ⟨g, _, rfl, ?_, a2, c2, rfl, hsl⟩
      rw [World.ownsRow.cellAt q1 i (by omega)]
      exact e
  have hpc : Hid (∀ i, i < len → ∃ b off a2 c2, ao = some ⟨b, off, none⟩ ∧ w.cell? ⟨b, off + i, none⟩ = some (.slice a2 (ps.getD i []).length c2) ∧ Sl w a2 (ps.getD i []).length c2 (ps.getD i [])) := fun i hi => by
    obtain ⟨b, off, e, _, hc⟩ := h.2.2.2 (by omega)
    obtain ⟨a2, l2, c2, hc2, hs2⟩ := hc i hi
    obtain rfl := hs2.1
    exact ⟨b, off, a2, c2, e, hc2, hs2⟩
  have heq : Hid (∀ i, i < bs.length → bs.getD i [] = ps.getD i []) := fun i hi => by
    subst hk
    simp only [List.getD]
    rw [List.getElem?_take_of_lt (by simp at hi; omega)]
  obtain ⟨n, hn⟩ : ∃ n, n = bs.length := ⟨_, rfl⟩
  rw [← hn] at hcell hbl heq ⊢
  have hni : (n : Int) ≤ (len : Int) := by omega
  clear q1 q2 q3 h hk hn
  go_enter Try.func20, Try.ntmps20
  go_wp2
  go_loopw [5] (fun i wr => ∃ j q : Nat, j ≤ n ∧ i = .int .i64 (j : Int) ∧ wr = w.drewN q) (fun i _ => n - (intOf i).toNat)
  case atStart => exact ⟨0, 0, by omega, rfl, rfl⟩
  case round =>
    obtain ⟨j, q, hj, rfl, rfl⟩ := hrel
    by_cases hlt : j < n
    · have hi1 : (j : Int) < (n : Int) := by omega
      have hi2 : (j : Int) < (len : Int) := by omega
      have hd1 : decide ((j : Int) < (n : Int)) = true := by simp; omega
      have hd2 : decide ((j : Int) < (len : Int)) = true := by simp; omega
      have hd3 : decide (j < n) = true := by simp; omega
      have hd4 : decide (j < len) = true := by simp; omega
      obtain ⟨g, u, rfl, hc1, a2, c2, rfl, hs1⟩ := hcell.out j hlt
      obtain ⟨b, off, a3, c3, rfl, hc2, hs2⟩ := hpc.out j (by omega)
      have e := heq.out j hlt
      rw [← e] at hc2 hs2
      generalize bs.getD j [] = y at *
      have hst1 : ∀ q, (convert 22 9 (.slice a2 y.length c2)).run Try.prog (w.drewN q) = .ok (.string (strOfNums y)) (w.drewN q) := fun q => (hs1.drewN q).str (P := Try.prog) 22 Try.underlying22 Try.underlying5 Try.underlying9
      have hst2 : ∀ q, (convert 22 9 (.slice a3 y.length c3)).run Try.prog (w.drewN q) = .ok (.string (strOfNums y)) (w.drewN q) := fun q => (hs2.drewN q).str (P := Try.prog) 22 Try.underlying22 Try.underlying5 Try.underlying9
      have hne : ((strOfNums y).toList != (strOfNums y).toList) = false := by simp
      clear hs1 hs2 e
      go_wp2
      go_quiet (fail)
      go_wp2
      go_roundw
      case rel => exact ⟨j + 1, _, by omega, by go_num, rfl⟩
      case measure => simp [intOf]; omega
    · have hi1 : ¬ (j : Int) < (n : Int) := by omega
      have hd1 : decide ((j : Int) < (n : Int)) = false := by simp; omega
      have hd3 : decide (j < n) = false := by simp; omega
      have hd5 : decide ((n : Int) ≤ (len : Int)) = true := by simp; omega
      have hd6 : decide (n ≤ len) = true := by simp; omega
      go_wp2
      go_ret
      exact ⟨by first | rfl | (simp; done), q, rfl⟩
end Go.Proofs.Ytaibldodlbaknaa
