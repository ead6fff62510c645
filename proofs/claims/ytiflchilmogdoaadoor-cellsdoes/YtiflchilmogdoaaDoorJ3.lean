/-
  A step that takes a cell; any step; CellsDoes' walk.
-/
import Derived.Test.YtiflchilmogdoaaDoorJ2
set_option linter.unusedVariables false
set_option linter.unusedSimpArgs false
namespace Go.Proofs.YtiflchilmogdoaaDoor
open Go.RowKit

section
variable {w : World} {d g B r n : Nat} {T R : List Bool} {N H : List Int} {m : Int}

theorem getD_ft {T : List Bool} {c : Nat} (h : c < T.length) : T.getD c true = T.getD c false := by simp [List.getD, List.getElem?_eq_getElem h]
theorem getD_in {T : List Bool} {c : Nat} (h : T.getD c false = true) : c < T.length := by
  rcases Nat.lt_or_ge c T.length with h1 | h1
  · exact h1
  · simp [List.getD, List.getElem?_eq_none h1] at h

/-- What the document's Alloc answers where the least free cell is c, and leaves. -/
theorem refAlloc_any {hv tv : Value} (h : Rw w B r n R H m hv tv) (hB : B ≤ w.heap.size) (c : Nat) (hc : R.getD c false = false) (hmin : ∀ j, j < c → R.getD j false = true) (hn : c < n) :
    Calls Tryd.prog 24 #[.pointer (some ⟨r, 0, none⟩)] w fun e w' => e = .returned (.tuple #[.int .i64 (c : Int), .int .i64 0]) ∧ (∃ R' H' hv' tv', Rw w' B r n R' H' m hv' tv' ∧ (∀ i, R'.getD i false = if i = c then true else R.getD i false) ∧ (∀ i, H'.getD i 0 = if i = c then 0 else H.getD i 0)) ∧ Fr (fun k => B ≤ k) w w' := by
  have hlen := h.len
  by_cases hcl : c < R.length
  · refine (refAlloc_old h c hcl hc hmin).mono ?_
    rintro e w' ⟨rfl, hR, hF⟩
    refine ⟨rfl, ⟨_, _, _, _, hR, fun i => ?_, fun i => ?_⟩, hF⟩
    · rw [getD_set]
      by_cases hic : i = c
      · rw [if_pos ⟨hic, hcl⟩, if_pos hic]
      · rw [if_neg (fun e => hic e.1), if_neg hic]
    · rw [getD_set]
      by_cases hic : i = c
      · rw [if_pos ⟨hic, by omega⟩, if_pos hic]
      · rw [if_neg (fun e => hic e.1), if_neg hic]
  · have hce : c = R.length := by
      rcases Nat.lt_or_ge R.length c with h1 | h1
      · have := getD_in (hmin R.length h1)
        omega
      · omega
    subst hce
    refine (refAlloc_new h hB hmin hn).mono ?_
    rintro e w' ⟨rfl, ⟨hv', tv', hR⟩, hF⟩
    refine ⟨rfl, ⟨_, _, _, _, hR, fun i => ?_, fun i => ?_⟩, hF⟩
    · by_cases hic : i = R.length
      · subst hic; simp [List.getD]
      · rw [if_neg hic]
        rcases Nat.lt_or_ge i R.length with h1 | h1
        · simp [List.getD, List.getElem?_append_left h1]
        · simp [List.getD, List.getElem?_eq_none h1, List.getElem?_eq_none (show (R ++ [true]).length ≤ i by simp; omega)]
    · by_cases hic : i = R.length
      · subst hic; simp [List.getD, ← hlen]
      · rw [if_neg hic]
        rcases Nat.lt_or_ge i H.length with h1 | h1
        · simp [List.getD, List.getElem?_append_left h1]
        · simp [List.getD, List.getElem?_eq_none h1, List.getElem?_eq_none (show (H ++ [0]).length ≤ i by simp; omega)]

set_option maxRecDepth 100000 in
set_option maxHeartbeats 2000000 in
/-- A step that takes a cell. -/
theorem does_alloc (h : Jn w d g B r n T N R H m) (hT : Tab w) (s : StepR) (hk : s.kind = 1) :
    Calls Tryd.prog 12 #[.pointer (some ⟨d, 0, none⟩), .pointer (some ⟨r, 0, none⟩), stepV s] w fun e w' => e = .returned (.bool true) ∧ Both w w' d g B r n m := by
  obtain ⟨kind, o⟩ := s
  simp only at hk
  subst hk
  have hb0 := h.hb
  have h1 := h.alloc (stepC ⟨1, o⟩)
  have hT1 : Tab (w.alloc (stepC ⟨1, o⟩)) := hT.below ((Below.refl w.heap.size w).alloc (Nat.le_refl _) _) hT.1
  obtain ⟨F, hA⟩ := h1.a
  obtain ⟨hv, tv, hR⟩ := h1.r
  have hlo := h1.lo
  have hhb := h1.hb
  have htl := h1.tl
  have heq := h1.eq
  have hle : T.count true ≤ T.length := List.count_le_length
  by_cases hf : T.count true = T.length
  · have hall := count_all.1 hf
    have hRl : R.length = n := by
      have h2 := hR.top
      rcases Nat.lt_or_ge R.length n with h3 | h3
      · have h4 := hall R.length
        rw [getD_ft (by omega), heq] at h4
        have := getD_in h4
        omega
      · omega
    have HD := hide2 (Alloc_full hA hf)
    have HR := hide2 hR
    have HJ := hide2 h1
    have HA := hide2 hA
    have HALL : Hid (∀ j, j < R.length → R.getD j false = true) := hide2 (fun j hj => by
      have h4 := hall j
      rw [getD_ft (by omega), heq] at h4
      exact h4)
    clear hR h1 h hA hall heq hT1 hT hf hle
    go_enter Tryd.func12, Tryd.ntmps12
    go_wp2_with fail
    refine HD.out.mono ?_
    rintro e w1 ⟨rfl, q, rfl⟩
    have hF1 : Fr (fun j => j = d ∨ j = g) (w.alloc (stepC ⟨1, o⟩)) ((w.alloc (stepC ⟨1, o⟩)).drewN q) := (Fr.refl _ _).drewN q
    have hR1 := HR.out.fr hF1 hlo.1 hlo.2.1
    have HD2 := hide2 (refAlloc_full hR1 HALL.out hRl)
    clear HD
    go_wp2_with fail
    refine HD2.out.mono ?_
    rintro e w2 ⟨rfl, rfl⟩
    have hBt : Both (w.alloc (stepC ⟨1, o⟩)) ((w.alloc (stepC ⟨1, o⟩)).drewN q) d g B r n m := ⟨⟨_, _, _, _, m, HJ.out.keep ⟨_, HA.out.same rfl rfl⟩ ⟨_, _, hR1⟩ hhb, by omega, by omega⟩, fr_a hF1⟩
    clear HD2 HR HJ hR1 hF1 HA HALL
    go_wp2
    go_ret
    exact ⟨rfl, hBt.alloc⟩
  · obtain ⟨c, hc, hmin⟩ := least_free T (by omega)
    have hcl := getD_lt hc
    have hc2 : R.getD c false = false := by rw [← heq, ← getD_ft hcl]; exact hc
    have hmin2 : ∀ j, j < c → R.getD j false = true := fun j hj => by rw [← heq, ← getD_ft (by omega)]; exact hmin j hj
    have HD := hide2 (Alloc_one hA hT1 c hc hmin hlo.2.2.1 hlo.2.2.2)
    have HR := hide2 hR
    have HJ := hide2 h1
    have HM := hide2 hmin2
    have HC := hide2 hc2
    clear hR h1 h hA heq hT1 hT hf hle hmin hmin2 hc hc2
    go_enter Tryd.func12, Tryd.ntmps12
    go_wp2_with fail
    refine HD.out.mono ?_
    rintro e w1 ⟨rfl, hA1, hF1⟩
    have hR1 := HR.out.fr hF1 hlo.1 hlo.2.1
    have HD2 := hide2 (refAlloc_any hR1 (Nat.le_trans hhb hF1.size) c HC.out HM.out (by omega))
    have HA1 := hide2 hA1
    have HF1 := hide2 hF1
    clear HD hA1 hF1 hR1
    go_wp2_with fail
    refine HD2.out.mono ?_
    rintro e w2 ⟨rfl, ⟨R', H', hv', tv', hR2, hRe, hHe⟩, hF2⟩
    have hF3 : Fr (fun j => j = d ∨ j = g ∨ B ≤ j) (w.alloc (stepC ⟨1, o⟩)) w2 := (fr_a HF1.out).trans (fr_r (d := d) (g := g) hF2) (fun j hj => .inl hj)
    have hBt : Both (w.alloc (stepC ⟨1, o⟩)) w2 d g B r n m := by
      have hJ := HJ.out
      have hNl := HA1.out.len
      simp only [List.length_set] at hNl
      refine ⟨⟨T.set c true, N.set c 0, R', H', m, ⟨⟨_, HA1.out.frR hF2 hlo.1 hlo.2.1⟩, ⟨_, _, hR2⟩, by simpa using hJ.tl, fun i => ?_, fun i hi => ?_, hJ.lo, Nat.le_trans hhb hF3.size⟩, by omega, by omega⟩, hF3⟩
      · rw [getD_set, hRe]
        by_cases hic : i = c
        · rw [if_pos ⟨hic, hcl⟩, if_pos hic]
        · rw [if_neg (fun e => hic e.1), if_neg hic]
          exact hJ.eq i
      · rw [getD_set, hHe]
        by_cases hic : i = c
        · rw [if_pos ⟨hic, by omega⟩, if_pos hic]
        · rw [if_neg (fun e => hic e.1), if_neg hic]
          rw [hRe, if_neg hic] at hi
          exact hJ.nh i hi
    clear HD2 HR HJ HA1 HF1 HM HC hR2 hRe hHe hF2 hF3
    go_wp2
    go_ret
    exact ⟨rfl, hBt.alloc⟩

/-- Any step. -/
theorem does_any (h : Jn w d g B r n T N R H m) (hT : Tab w) (s : StepR) (hs : s.ok) (hm : 0 ≤ m ∧ m < 4611686018427387904) :
    Calls Tryd.prog 12 #[.pointer (some ⟨d, 0, none⟩), .pointer (some ⟨r, 0, none⟩), stepV s] w fun e w' => e = .returned (.bool true) ∧ Both w w' d g B r n m := by
  by_cases h1 : s.kind = 1
  · exact does_alloc h hT s h1
  by_cases h2 : s.kind = 2
  · exact does_free h s h2
  by_cases h3 : s.kind = 3
  · exact does_op h s hs h3 hm
  by_cases h4 : s.kind = 4
  · exact does_call h s hs h4 hm
  · exact does_none h s (by omega)
end

set_option maxRecDepth 100000 in
set_option maxHeartbeats 2000000 in
theorem does_walk (size : Int) (ao : Option Addr) (len cap : Nat) (ss : List StepR) (w : World) (hT : Tab w) (hok : ∀ s ∈ ss, s.ok) (hs : Seq 5 StepR.cells w ao len cap ss) (hlen : len ≤ 140737488351232) :
    Calls Tryd.prog 3 #[.int .i64 size, .slice ao len cap] w fun e w' => e = .returned (.bool true) ∧ Below w.heap.size w w' := by
  have h0 := hT.1
  have HN := hide2 (shown_any w hT)
  by_cases hsz : 1 ≤ size ∧ size ≤ 65536
  rotate_left
  · have hbad : size < 1 ∨ 65536 < size := by omega
    go_enter Tryd.func3, Tryd.ntmps3
    go_wp2_with fail
    refine HN.out.mono ?_
    rintro e w1 ⟨rfl, hB1⟩
    clear HN hsz
    go_wp2_with fail
    refine (New_bad size w1 hbad).mono ?_
    rintro e w2 ⟨rfl, rfl⟩
    go_wp2_with fail
    refine (refNew_bad size w2 hbad).mono ?_
    rintro e w3 ⟨rfl, rfl⟩
    clear hbad
    go_wp2
    go_ret
    exact ⟨rfl, hB1⟩
  obtain ⟨n, rfl⟩ : ∃ n : Nat, size = n := ⟨size.toNat, by omega⟩
  have hn1 : 1 ≤ n := by omega
  have hn2 : n ≤ 65536 := by omega
  clear hsz
  go_enter Tryd.func3, Tryd.ntmps3
  go_wp2_with fail
  refine HN.out.mono ?_
  rintro e w1 ⟨rfl, hB1⟩
  have hs1 := hB1.size
  have HN2 := hide2 (New_any n w1 hn1 hn2)
  clear HN
  go_wp2_with fail
  refine HN2.out.mono ?_
  rintro e w2 ⟨rfl, ⟨F, hA⟩, hB2⟩
  have hBB : Below w.heap.size w w2 := hB1.trans (hB2.mono hs1)
  have HN3 := hide2 (refNew_any n w2 hn1 hn2)
  have hl1 := hA.ab.lt
  have hl2 := hA.nb.lt
  generalize hd : w1.heap.size + 1 = d at hA hl1
  generalize hg : w1.heap.size = g at hA hd hs1 hl2
  clear HN2
  go_wp2_with fail
  refine HN3.out.mono ?_
  rintro e w3 ⟨rfl, ⟨hv, tv, hR⟩, hF3⟩
  generalize hB : w2.heap.size = B at hR hl1 hl2
  have hBw : w.heap.size ≤ B := by rw [← hB]; exact hBB.size
  have hdw : w.heap.size ≤ d := by omega
  have hgw : w.heap.size ≤ g := by omega
  have hB3 : Below w.heap.size w w3 := hBB.trans (hF3.none hBB.size)
  have hJ : Jn w3 d g B B n (List.replicate n false) (List.replicate n 0) [] [] 0 := by
    refine ⟨⟨F, hA.fr hF3 id id⟩, ⟨hv, tv, hR⟩, by simp, fun c => ?_, fun c hc => by simp at hc, ⟨hl1, hl2, by omega, by omega⟩, ?_⟩
    · rw [getD_rep]; simp
    · rw [← hB]; exact hF3.size
  have hJ0 : ∃ T N R H m, Jn w3 d g B B n T N R H m ∧ 0 ≤ m ∧ m ≤ 0 := ⟨_, _, _, _, _, hJ, by omega, by omega⟩
  clear HN3 hA hR hF3 hB2 hB1 hJ
  go_wp2
  go_loopw [10] (fun i wr => ∃ k : Nat, k ≤ len ∧ i = .int .i64 k ∧ (∃ T N R H m, Jn wr d g B B n T N R H m ∧ 0 ≤ m ∧ m ≤ (k : Int)) ∧ Below w.heap.size w wr) (fun i _ => len - (intOf i).toNat)
  case atStart => exact ⟨0, by omega, rfl, hJ0, hB3⟩
  case round =>
    obtain ⟨k, hk, rfl, ⟨T, N, R, H, m, hJ, hm0, hm1⟩, hBr⟩ := hrel
    by_cases hkl : k < len
    · obtain ⟨b, off, rfl, hbl, hcell⟩ := (hs.keep hBr).2.2.2 (by omega)
      obtain ⟨s, hss⟩ := some_at hs.1 hkl
      have hso := hok s (List.mem_of_getElem? hss)
      have q0 : wr.cell? ⟨b, off + k * 5, none⟩ = some (.int .i64 s.kind) := hcell k s hss 0 _ rfl
      have q1 := hcell k s hss 1 _ rfl
      have q2 := hcell k s hss 2 _ rfl
      have q3 := hcell k s hss 3 _ rfl
      have q4 := hcell k s hss 4 _ rfl
      have HD := hide2 (does_any hJ (hT.below hBr h0) s hso ⟨hm0, by omega⟩)
      clear hcell
      go_wp2_with fail
      refine HD.out.mono ?_
      rintro e w4 ⟨rfl, ⟨T', N', R', H', m', hJ', hm2, hm3⟩, hF4⟩
      have hB4 : Below w.heap.size w w4 := hBr.trans (hF4.to (fun j hj e => by omega) hBr.size)
      obtain ⟨F', hA'⟩ := hJ'.a
      obtain ⟨hv', tv', hR'⟩ := hJ'.r
      have hcount := hJ'.count
      have u1 : ∀ q, Calls Tryd.prog 13 #[.pointer (some ⟨d, 0, none⟩)] (w4.drewN q) fun e w' => e = .returned (.int .i64 ((R'.count true : Nat) : Int)) ∧ w' = w4.drewN q := fun q => by
        rw [← hcount]
        exact Used_any (hA'.same (w' := w4.drewN q) rfl rfl)
      have u2 : ∀ q, Calls Tryd.prog 14 #[.pointer (some ⟨B, 0, none⟩)] (w4.drewN q) fun e w' => e = .returned (.int .i64 ((R'.count true : Nat) : Int)) ∧ w' = w4.drewN q := fun q => refUsed_any (hR'.drewN q)
      have u3 : ∀ q, Calls Tryd.prog 15 #[.pointer (some ⟨d, 0, none⟩)] (w4.drewN q) fun e w' => e = .returned (.int .i64 m') ∧ w' = w4.drewN q := fun q => Steps_any (hA'.same (w' := w4.drewN q) rfl rfl)
      obtain ⟨-, -, -, c3⟩ := hR'.cells
      have hJ5 : ∀ q, ∃ T N R H m, Jn (w4.drewN q) d g B B n T N R H m ∧ 0 ≤ m ∧ m ≤ ((k + 1 : Nat) : Int) := fun q => ⟨_, _, _, _, _, hJ'.keep ⟨_, hA'.same (w' := w4.drewN q) rfl rfl⟩ ⟨_, _, hR'.drewN q⟩ hJ'.hb, by omega, by omega⟩
      have HJ5 := hide2 hJ5
      clear hJ5 HD hA' hR' hJ' hcount q0 q1 q2 q3 q4 hJ hF4 hso hss
      generalize R'.count true = u at u1 u2
      go_wp2
      go_quiet (first
        | (go_at_call 13; refine Calls.quiet_of_same (u1 _))
        | (go_at_call 14; refine Calls.quiet_of_same (u2 _))
        | (go_at_call 15; refine Calls.quiet_of_same (u3 _)))
      go_wp2
      go_roundw
      case rel => exact ⟨k + 1, by omega, by go_num, HJ5.out _, hB4.trans (below_drewN _ _ _)⟩
      case measure => simp [intOf]; omega
    · obtain rfl : k = len := by omega
      go_wp2
      go_ret
      exact ⟨rfl, hBr⟩
end Go.Proofs.YtiflchilmogdoaaDoor
