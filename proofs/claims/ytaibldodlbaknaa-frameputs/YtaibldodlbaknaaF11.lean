/-
  What standsFrom and All do.
-/
import Derived.Test.YtaibldodlbaknaaF10
set_option linter.unusedVariables false
set_option linter.unusedSimpArgs false
namespace Go.Proofs.Ytaibldodlbaknaa
open Go.RowKit

theorem Try.info22 : (Try.prog.info? 22).map (fun i => (i.zero, i.size, i.bytes)) = some (some (.slice none 0 0), 1, 24) := by kernel_rfl

set_option maxHeartbeats 2000000 in
/-- standsFrom: is there, from a place on, a frame whose number is not below? -/
theorem standsFrom_any (ao : Option Addr) (len cap : Nat) (xs : List Int) (a least : Nat) (w : World) (h : Sl w ao len cap xs) (hl : len ≤ 140737488355328) (ha : a ≤ len) (hs : least < 18446744073709551616) :
    Calls Try.prog 29 #[.slice ao len cap, .int .i64 (a : Int), .int .u64 (least : Int)] w fun e w' => ∃ r : Bool, e = .returned (.bool r) ∧ (r = true ↔ Late xs a least) ∧ Below w.heap.size w w' := by
  have hx := h.1
  have hbyt := h.2.2.2.1
  go_enter Try.func29, Try.ntmps29
  go_wp2
  go_loopw [1, 7, 8, 9, 10] (fun i _ _ _ _ wr => ∃ k : Nat, a + 32 * k ≤ len + 32 ∧ i = .int .i64 ((a + 32 * k : Nat) : Int) ∧ Hid (∀ j, j < k → ∀ seq body, takA xs ((a + 32 * j : Nat) : Int) = some (seq, body) → seq < least) ∧ Below w.heap.size w wr) (fun i _ _ _ _ _ => len + 64 - (intOf i).toNat)
  case atStart => exact ⟨0, by omega, by simp, (fun j hj => by omega), Below.refl _ _⟩
  case round =>
    obtain ⟨k, hk, rfl, HD, hbel⟩ := hrel
    by_cases hlt : a + 32 * k < len
    · have hlti : ((a + 32 * k : Nat) : Int) < (len : Int) := by omega
      have hw := h.below hbel
      generalize hA : a + 32 * k = A at *
      replace hA := hF hA
      go_wp2_with fail
      refine (take_any ao len cap xs (A : Int) wr hw hl).mono ?_
      rintro e w1 ⟨hres, hb1⟩
      have hb01 : Below w.heap.size w w1 := hbel.trans (hb1.mono hbel.size)
      rcases hres with ⟨seq, body, v, g, ht, rfl, hbd⟩ | ⟨ht, rfl⟩
      · by_cases hge : least ≤ seq
        · have HL : Hid (Late xs a least) := ⟨k, seq, body, by rw [hA.out]; exact ht, hge⟩
          have hgi : (least : Int) ≤ (seq : Int) := by omega
          have hgd : decide ((least : Int) ≤ (seq : Int)) = true := by simp; omega
          have hgd2 : decide (least ≤ seq) = true := by simp; omega
          clear ht hbd hb1 hw hbel
          go_wp2
          go_ret
          first
            | exact .inr ⟨rfl, HL.out, hb01⟩
            | exact ⟨true, rfl, ⟨fun _ => HL.out, fun _ => rfl⟩, hb01⟩
        · have HD2 : Hid (∀ j, j < k + 1 → ∀ seq body, takA xs ((a + 32 * j : Nat) : Int) = some (seq, body) → seq < least) := by
            intro j hj s b hsb
            by_cases hjk : j < k
            · exact HD.out j hjk s b hsb
            · obtain rfl : j = k := by omega
              rw [hA.out, ht] at hsb
              simp only [Option.some.injEq, Prod.mk.injEq] at hsb
              omega
          have hgi : ¬ (least : Int) ≤ (seq : Int) := by omega
          have hgd : decide ((least : Int) ≤ (seq : Int)) = false := by simp; omega
          have hgd2 : decide (least ≤ seq) = false := by simp; omega
          clear ht hbd hb1 hw hbel HD
          go_wp2
          go_roundw
          case rel => exact ⟨k + 1, by have := hA.out; omega, by have := hA.out; go_num, HD2, hb01⟩
          case measure => simp [intOf]; omega
      · have HD2 : Hid (∀ j, j < k + 1 → ∀ seq body, takA xs ((a + 32 * j : Nat) : Int) = some (seq, body) → seq < least) := by
          intro j hj s b hsb
          by_cases hjk : j < k
          · exact HD.out j hjk s b hsb
          · obtain rfl : j = k := by omega
            rw [hA.out, ht] at hsb
            cases hsb
        clear ht hb1 hw hbel HD
        go_wp2
        go_roundw
        case rel => exact ⟨k + 1, by have := hA.out; omega, by have := hA.out; go_num, HD2, hb01⟩
        case measure => simp [intOf]; omega
    · have hlti : ¬ ((a + 32 * k : Nat) : Int) < (len : Int) := by omega
      have HN : Hid (¬ Late xs a least) := by
        rintro ⟨i, seq, body, ht, hge⟩
        have h1 := (takA_some hbyt ht).1
        have := HD.out i (by omega) seq body ht
        omega
      clear HD
      go_wp2
      go_ret
      first
        | exact .inl ⟨rfl, HN.out, hbel⟩
        | exact ⟨false, rfl, ⟨fun q => by simp at q, fun q => absurd q HN.out⟩, hbel⟩

/-- What All leaves and answers. -/
def AlR (w : World) (xs : List Int) (first : Nat) (e : Ending) (w' : World) : Prop :=
  ∃ bs a f, goes xs bs 0 first = some (a, f) ∧ (∀ b, takA xs (a : Int) ≠ some (f, b)) ∧
    (Late xs a f ∧ e = .returned (.tuple #[.slice none 0 0, .int .i64 0, .int .i64 41]) ∨ ¬ Late xs a f ∧ ∃ v, e = .returned (.tuple #[v, .int .i64 (a : Int), .int .i64 0]) ∧ Bs w' w.heap.size v bs)

theorem one_sl (v : Value) (ao : Option Addr) (n c : Nat) (h : v = .slice ao n c) : ∀ u ∈ [v], u.oneCell' = true := by intro u hu; simp at hu; subst hu; subst h; rfl

set_option maxHeartbeats 4000000 in
theorem all_any (ao : Option Addr) (len cap : Nat) (xs : List Int) (first : Int) (w : World) (h : Sl w ao len cap xs) (hl : len ≤ 140737488355328) (h0 : 0 ≤ first) (h1 : first ≤ 18446744073709551615) :
    Calls Try.prog 17 #[.slice ao len cap, .int .u64 first] w fun e w' => AlR w xs first.toNat e w' ∧ Below w.heap.size w w' := by
  obtain ⟨i0, hi, hz0, hz1, hz2⟩ := info_parts Try.info22
  have hx := h.1
  have hbyt := h.2.2.2.1
  obtain ⟨F0, hF0⟩ : ∃ F0 : Nat, first = (F0 : Int) ∧ F0 < 18446744073709551616 := ⟨first.toNat, by omega, by omega⟩
  obtain ⟨rfl, hF0⟩ := hF0
  rw [Int.toNat_natCast]
  obtain ⟨B, hB⟩ : ∃ B, B = w.heap.size := ⟨_, rfl⟩
  have hB0 := Bs.nil w B
  have hb0 : Below B w w := Below.refl _ _
  replace hB := hF hB
  go_enter Try.func17, Try.ntmps17
  go_wp2
  go_loopw [7, 8, 9, 10, 11, 12, 13] (fun v i fv _ _ _ _ wr => ∃ (bs : List (List Int)) (A F : Nat), i = .int .i64 (A : Int) ∧ fv = .int .u64 (F : Int) ∧ Hid (goes xs bs 0 F0 = some (A, F)) ∧ Bs wr B v bs ∧ Below B w wr) (fun _ i _ _ _ _ _ _ => len + 1 - (intOf i).toNat)
  case atStart => exact ⟨[], 0, F0, rfl, rfl, rfl, hB0, hb0⟩
  case round =>
    obtain ⟨bs, A, F, rfl, rfl, hg, hBs, hbel⟩ := hrel
    obtain ⟨hA1, hA2, hA3, hA4⟩ := goes_le hbyt bs 0 F0 A F hg.out (by omega) rfl hF0
    have hw := h.below (w' := wr) (by rw [← hB.out]; exact hbel)
    have hsB : B ≤ wr.heap.size := by rw [hB.out]; exact hbel.size
    go_wp2_with fail
    refine (take_any ao len cap xs (A : Int) wr hw hl).mono ?_
    rintro e w1 ⟨hres, hb1⟩
    have hb01 : Below B w w1 := hbel.trans (hb1.mono hsB)
    have hBs1 := hBs.below hb1
    have hw1 := hw.below hb1
    by_cases hgo : ∃ b, takA xs (A : Int) = some (F, b)
    · obtain ⟨b0, hb0t⟩ := hgo
      rcases hres with ⟨seq, body, v1, g, ht, rfl, hbd⟩ | ⟨ht, rfl⟩
      · rw [ht] at hb0t
        simp only [Option.some.injEq, Prod.mk.injEq] at hb0t
        obtain ⟨rfl, rfl⟩ := hb0t
        obtain ⟨t1, t2, t3, t4, t5, t6, t7⟩ := takA_some hbyt ht
        have hg2 := hF (goes_snoc xs bs body 0 F0 A seq hg.out ht)
        obtain ⟨cs, G, q1, q2, q3⟩ := hBs
        have hgG : ∀ i, i < bs.length → G i < g := fun i hi => by
          obtain ⟨u, _, hd⟩ := q2 i hi
          exact Nat.lt_of_lt_of_le hd.lt hbd.1
        obtain ⟨a1, c1, e1⟩ : ∃ a1 c1, v1 = .slice a1 body.length c1 := by
          obtain ⟨_, _, a1, c1, e1, _⟩ := hbd
          exact ⟨a1, c1, e1⟩
        have hone := one_sl v1 a1 body.length c1 e1
        subst e1
        have hbA : Below w1.heap.size w1 (w1.alloc (.cells #[.slice a1 body.length c1] 22)) := (Below.refl _ _).alloc (Nat.le_refl _) _
        have qA1 := row_up (row_up q1 hb1) hbA
        have qA2 : ∀ i, i < bs.length → ∃ u, cs[i]? = some u ∧ Bd (w1.alloc (.cells #[.slice a1 body.length c1] 22)) B (G i) u (bs.getD i []) := fun i hi => by
          obtain ⟨u, e, hd⟩ := q2 i hi
          exact ⟨u, e, (hd.below hb1).below hbA⟩
        have qAd := (hbd.weak hsB).below hbA
        have hb0A : Below B w (w1.alloc (.cells #[.slice a1 body.length c1] 22)) := hb01.trans (hbA.mono (Nat.le_trans hsB hb1.size))
        have hsA : B ≤ (w1.alloc (.cells #[.slice a1 body.length c1] 22)).heap.size := by
          have := hb1.size
          simp
          omega
        have hnw : ((seq : Int) + 1) % 18446744073709551616 = (((seq + 1) % 18446744073709551616 : Nat) : Int) := by omega
        have hnb := nb_pos body.length
        have hpush := fun w' v' => hF (Bs.push (w := w1.alloc (.cells #[.slice a1 body.length c1] 22)) (w' := w') (v' := v') qA2 q3 qA1 qAd hgG)
        clear hbd q1 q2 q3 hBs1 hw hb1 hbel hg ht t3 t6 hw1 qA2 qAd hbA
        go_wp2_with (at_builtin; refine wpList_append_own _ rfl _ _ 35 rfl B 22 i0 (.slice none 0 0) 1 24 Try.underlying35 hi hz0 hz1 hz2 rfl (by decide) _ _ _ rfl qA1 ⟨w1.heap.size, 0, none⟩ 1 1 [.slice a1 body.length c1] rfl rfl (cell_one_new _ _ _) hone (by unfold maxLen; omega) (by omega) hsA ?_)
        intro v' w2 hown2 hgrow _
        have hBs2 : Bs w2 B v' (bs ++ [body]) := (hpush w2 v').out hgrow hown2
        have hb02 : Below B w w2 := hb0A.trans ((Below.refl _ _).grown hgrow hsA fun k hk => (World.ownsRow.lt qA1 k hk).1)
        clear hpush hown2 hgrow qA1 hb0A hsA
        go_wp2
        go_roundw
        case rel => exact ⟨bs ++ [body], A + 32 * nb body.length, (seq + 1) % 18446744073709551616, by go_num, by go_num, hg2, hBs2, hb02⟩
        case measure => simp [intOf]; omega
      · rw [ht] at hb0t
        cases hb0t
    · have hstop : Hid (∀ b, takA xs (A : Int) ≠ some (F, b)) := fun b hb => hgo ⟨b, hb⟩
      clear hgo hBs hw hbel
      have hsf := standsFrom_any ao len cap xs A F w1 hw1 hl (by omega) hA3
      rcases hres with ⟨seq, body, v1, g, ht, rfl, hbd⟩ | ⟨ht, rfl⟩
      · have hne : ¬ seq = F := fun e => hstop.out body (by rw [ht, e])
        have hne1 : ((seq : Int) == (F : Int)) = false := by simp; omega
        have hne2 : ((seq : Int) != (F : Int)) = true := by simp; omega
        have hne3 : (seq == F) = false := by simpa using hne
        have hne4 : (seq != F) = true := by simpa using hne
        clear hbd ht hb1
        go_wp2_with fail
        refine hsf.mono ?_
        rintro e w2 ⟨r, rfl, hr, hb2⟩
        have hb02 : Below B w w2 := hb01.trans (hb2.mono (by rw [hB.out]; exact hb01.size))
        have hBs2 := hBs1.below hb2
        clear hsf hBs1 hb2 hb01 hw1
        cases r with
        | true =>
          have HL := hF (hr.1 rfl)
          clear hr
          go_wp2
          go_ret3
          exact ⟨⟨bs, A, F, hg.out, hstop.out, .inl ⟨HL.out, rfl⟩⟩, by rw [← hB.out]; exact hb02⟩
        | false =>
          have HL : Hid (¬ Late xs A F) := fun q => by simpa using hr.2 q
          clear hr
          go_wp2
          go_ret3
          exact ⟨⟨bs, A, F, hg.out, hstop.out, .inr ⟨HL.out, _, rfl, by rw [← hB.out]; exact hBs2⟩⟩, by rw [← hB.out]; exact hb02⟩
      · clear ht hb1
        go_wp2_with fail
        refine hsf.mono ?_
        rintro e w2 ⟨r, rfl, hr, hb2⟩
        have hb02 : Below B w w2 := hb01.trans (hb2.mono (by rw [hB.out]; exact hb01.size))
        have hBs2 := hBs1.below hb2
        clear hsf hBs1 hb2 hb01 hw1
        cases r with
        | true =>
          have HL := hF (hr.1 rfl)
          clear hr
          go_wp2
          go_ret3
          exact ⟨⟨bs, A, F, hg.out, hstop.out, .inl ⟨HL.out, rfl⟩⟩, by rw [← hB.out]; exact hb02⟩
        | false =>
          have HL : Hid (¬ Late xs A F) := fun q => by simpa using hr.2 q
          clear hr
          go_wp2
          go_ret3
          exact ⟨⟨bs, A, F, hg.out, hstop.out, .inr ⟨HL.out, _, rfl, by rw [← hB.out]; exact hBs2⟩⟩, by rw [← hB.out]; exact hb02⟩
end Go.Proofs.Ytaibldodlbaknaa
