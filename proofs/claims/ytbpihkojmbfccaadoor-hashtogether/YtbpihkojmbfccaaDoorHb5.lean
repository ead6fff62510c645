/-
  made, begun, shown; HashNone, HashBuckets.
-/
import Derived.Test.YtbpihkojmbfccaaDoorHb4
import Derived.Test.YtbpihkojmbfccaaDoorC9
set_option linter.unusedVariables false
set_option linter.unusedSimpArgs false
namespace Go.Proofs.YtbpihkojmbfccaaDoor
open Go.RowKit Go.Maps

/-- An operation as it is begun. -/
def opB (s : Tb) (k : ByteArray) (ins : Bool) (r : Int) : Opm := { (if good k = true then { o0 with k := k, pl := s.head (bkt s.hd.length k) } else o0) with ins := ins, r := r }

section
variable {w : World} {K : Nat → Prop} {tb d z M : Nat} {s : Tb}

theorem HT.begin (h : HT w K tb d z M s) (k : ByteArray) (hkl : k.size ≤ maxLen) :
    Calls Tryd.prog 30 #[.pointer (some ⟨tb, 0, none⟩), .string k] w fun e w' => e = .returned (.pointer (some ⟨w.heap.size, 0, none⟩)) ∧ Om w' w.heap.size (tp tb) (if good k = true then { o0 with k := k, pl := s.head (bkt s.hd.length k) } else o0) ∧ Below w.heap.size w w' := by
  obtain ⟨g, hb, hc, mb, sv, D, T, N, m, F, hH, hV, r⟩ := h
  by_cases hk : good k = true
  · rw [if_pos hk]
    exact begin_good hH.tk hH.hd hV.n1 rfl k hk
  · rw [if_neg hk]
    exact begin_bad hH.tk hV.n1.1 k hkl (by simpa using hk)
theorem HT.insert (h : HT w K tb d z M s) (k : ByteArray) (hkl : k.size ≤ maxLen) (r : Int) :
    Calls Tryd.prog 24 #[.pointer (some ⟨tb, 0, none⟩), .string k, .int .i64 r] w fun e w' => e = .returned (.pointer (some ⟨w.heap.size, 0, none⟩)) ∧ Om w' w.heap.size (tp tb) (opB s k true r) ∧ Below w.heap.size w w' :=
  Insert_of (tv := tp tb) r (h.begin k hkl)
theorem HT.lookup (h : HT w K tb d z M s) (k : ByteArray) (hkl : k.size ≤ maxLen) :
    Calls Tryd.prog 20 #[.pointer (some ⟨tb, 0, none⟩), .string k] w fun e w' => e = .returned (.pointer (some ⟨w.heap.size, 0, none⟩)) ∧ Om w' w.heap.size (tp tb) (opB s k false 0) ∧ Below w.heap.size w w' := by
  refine (Lookup_of (tv := tp tb) (h.begin k hkl)).mono ?_
  rintro e w' ⟨rfl, h1, h2⟩
  refine ⟨rfl, ?_, h2⟩
  unfold opB
  by_cases hk : good k = true
  · rw [if_pos hk] at h1 ⊢; exact h1
  · rw [if_neg hk] at h1 ⊢; exact h1

theorem opB_good {k : ByteArray} (hk : good k = true) (ins : Bool) (r : Int) : opB s k ins r = { o0 with k := k, pl := s.head (bkt s.hd.length k), ins := ins, r := r } := by unfold opB; rw [if_pos hk]
theorem opB_bad {k : ByteArray} (hk : good k = false) (ins : Bool) (r : Int) : opB s k ins r = { o0 with ins := ins, r := r } := by unfold opB; rw [if_neg (by rw [hk]; decide)]
theorem opB_st (k : ByteArray) (ins : Bool) (r : Int) : (opB s k ins r).st = 0 := by unfold opB; split <;> rfl
theorem opB_oi {k : ByteArray} (hk : good k = true) (ins : Bool) (r : Int) : OI s (opB s k ins r) := by
  rw [opB_good hk]
  exact ⟨hk, Nat.zero_le _, (plc_zero _ _).symm, fun e he => by simp [o0] at he⟩
theorem opB_al {k : ByteArray} (hk : good k = true) (ins : Bool) (r : Int) : Al z s k ins r ((s.at (bkt s.hd.length k)).length + 3) s (opB s k ins r) := by
  refine ⟨opB_oi hk ins r, ?_, ?_, .inl ?_⟩
  · rw [opB_good hk]
  · rw [opB_good hk]
  · rw [opB_good hk]
    exact ⟨rfl, rfl, rfl, rfl, rfl, by show _ - 0 + 3 ≤ _; omega⟩
end

theorem up_zero (n : Nat) : upT n 0 = List.replicate n false := by simp [upT]
theorem dn_all (n : Nat) : dnT n n = List.replicate n false := by simp [dnT]
theorem rep_count (n : Nat) : (List.replicate n false).count true = 0 := by simp [List.count_replicate]

section
variable {w : World}
set_option maxRecDepth 100000 in
set_option maxHeartbeats 2000000 in
theorem made_ok (hT : Tab w) (size b : Nat) (h1 : 1 ≤ size) (h2 : size ≤ 65536) (h3 : 1 ≤ b) (h4 : b ≤ 256) (h5 : b ≤ size) :
    Calls Tryd.prog 9 #[.int .i64 (size : Int), .int .i64 (b : Int)] w fun e w' => ∃ d tb K, e = .returned (.tuple #[.pointer (some ⟨d, 0, none⟩), .pointer (some ⟨tb, 0, none⟩), .bool true]) ∧ HT w' K tb d size 0 (s0 b) ∧ (∀ j, K j → w.heap.size ≤ j) ∧ Below w.heap.size w w' := by
  have HN := hide2 (New_any size w h1 h2)
  have HT0 := hide2 hT
  have hw0 := hT.1
  clear hT
  go_enter Tryd.func9, Tryd.ntmps9
  go_wp2_with fail
  refine HN.out.mono ?_
  rintro e w1 ⟨rfl, ⟨F, hA⟩, hb⟩
  rw [← up_zero] at hA
  have HB := hide2 hb
  have HH := hide2 (hnew_any hA (HT0.out.below hb hw0) (by omega) (by omega) h3 h4 h5 rfl)
  clear HN hA hb
  go_wp2_with fail
  refine HH.out.mono ?_
  rintro e w2 ⟨tb, K, rfl, h1, h2, h3⟩
  have H1 := hide2 h1
  have H3 := hide2 h3
  have H2 := hide2 h2
  clear HH h1 h3 h2
  go_wp2
  refine bodyPost_ret (results_tmp3 rfl _ _ _) rfl ?_
  have hs := HB.out.size
  exact ⟨_, tb, K, rfl, H1.out, fun j hj => by have := H2.out j hj; omega, HB.out.trans (H3.out.to (fun k hk e => by omega) hs)⟩

set_option maxRecDepth 100000 in
set_option maxHeartbeats 2000000 in
theorem made_none (size b : Int) (h : size < 1 ∨ 65536 < size) :
    Calls Tryd.prog 9 #[.int .i64 size, .int .i64 b] w fun e w' => e = .returned (.tuple #[.pointer none, .pointer none, .bool false]) ∧ w' = w := by
  have HN := hide2 (New_bad size w h)
  clear h
  go_enter Tryd.func9, Tryd.ntmps9
  go_wp2_with fail
  refine HN.out.mono ?_
  rintro e w1 ⟨rfl, q⟩
  subst q
  go_wp2
  refine bodyPost_ret (results_tmp3 rfl _ _ _) rfl ?_
  exact ⟨rfl, rfl⟩

set_option maxRecDepth 100000 in
set_option maxHeartbeats 2000000 in
theorem made_arena (hT : Tab w) (size : Nat) (b : Int) (h1 : 1 ≤ size) (h2 : size ≤ 65536) (h3 : b < 1 ∨ 256 < b ∨ (size : Int) < b) :
    Calls Tryd.prog 9 #[.int .i64 (size : Int), .int .i64 b] w fun e w' => ∃ d g T N m F, e = .returned (.tuple #[.pointer (some ⟨d, 0, none⟩), .pointer none, .bool false]) ∧ Aw w' d g T N m F ∧ T.count true = 0 ∧ Below w.heap.size w w' := by
  have HN := hide2 (New_any size w h1 h2)
  have HT0 := hide2 hT
  have hw0 := hT.1
  clear hT
  by_cases hbad : b < 1 ∨ 256 < b
  · clear h3
    go_enter Tryd.func9, Tryd.ntmps9
    go_wp2_with fail
    refine HN.out.mono ?_
    rintro e w1 ⟨rfl, ⟨F, hA⟩, hb⟩
    have HB := hide2 hb
    have HA := hide2 hA
    have HH := hide2 (hnew_bad w1 (w.heap.size + 1) b hbad)
    clear HN hA hb hbad
    go_wp2_with fail
    refine HH.out.mono ?_
    rintro e w2 ⟨rfl, q⟩
    subst q
    go_wp2
    refine bodyPost_ret (results_tmp3 rfl _ _ _) rfl ?_
    exact ⟨_, _, _, _, _, F, rfl, HA.out, rep_count size, HB.out⟩
  · obtain ⟨n, rfl⟩ : ∃ n : Nat, b = (n : Int) := ⟨b.toNat, by omega⟩
    have hn1 : 1 ≤ n ∧ n ≤ 256 ∧ size < n := by omega
    clear h3 hbad
    go_enter Tryd.func9, Tryd.ntmps9
    go_wp2_with fail
    refine HN.out.mono ?_
    rintro e w1 ⟨rfl, ⟨F, hA⟩, hb⟩
    rw [← up_zero] at hA
    have HB := hide2 hb
    have HH := hide2 (hnew_full hA (HT0.out.below hb hw0) (by omega) (by omega) hn1.1 hn1.2.1 hn1.2.2)
    clear HN hA hb
    go_wp2_with fail
    refine HH.out.mono ?_
    rintro e w2 ⟨rfl, ⟨F', hA2⟩, hF⟩
    have HA2 := hide2 hA2
    have HF := hide2 hF
    clear HH hA2 hF
    go_wp2
    refine bodyPost_ret (results_tmp3 rfl _ _ _) rfl ?_
    have hs := HB.out.size
    exact ⟨_, _, _, _, _, F', rfl, HA2.out, by rw [dn_all]; exact rep_count size, HB.out.trans (HF.out.to (fun k hk e => by omega) hs)⟩
end

theorem good_a : good (⟨#[97]⟩ : ByteArray) = true := by decide
theorem size_a : (⟨#[97]⟩ : ByteArray).size ≤ maxLen := by decide
theorem HT.mono {K : Nat → Prop} {tb d z M : Nat} {s : Tb} {w w' : World} (h : HT w K tb d z M s) (k : Below w.heap.size w w') : HT w' K tb d z M s :=
  h.keep (Fr.below (F := fun _ => False) k) (fun _ _ e => e) (fun e => e)

section
variable {w : World}
set_option maxRecDepth 100000 in
set_option maxHeartbeats 4000000 in
theorem hshown_any (hT : Tab w) : Calls Tryd.prog 8 #[] w fun e w' => e = .returned (.bool true) ∧ Below w.heap.size w w' := by
  have HN := hide2 (New_any 8 w (by decide) (by decide))
  have HT0 := hide2 hT
  have hw0 := hT.1
  clear hT
  go_enter Tryd.func8, Tryd.ntmps8
  go_wp2_with fail
  refine HN.out.mono ?_
  rintro e w1 ⟨rfl, ⟨F, hA⟩, hb⟩
  rw [← up_zero] at hA
  have HB := hide2 hb
  have HH := hide2 (hnew_any (n := 2) hA (HT0.out.below hb hw0) (by omega) (by omega) (by decide) (by decide) (by decide) rfl)
  clear HN hA hb
  go_wp2_with fail
  refine HH.out.mono ?_
  rintro e w2 ⟨tb, K, rfl, h1, h2, h3⟩
  have hs := HB.out.size
  have hb2 : Below w.heap.size w w2 := HB.out.trans (h3.to (fun k hk e => by omega) hs)
  have HK : Hid (∀ j, K j → w.heap.size ≤ j) := hide2 (fun j hj => by have := h2 j hj; omega)
  have H1 := hide2 h1
  have HI := hide2 (h1.insert ⟨#[97]⟩ size_a 7)
  have HB2 := hide2 hb2
  clear HH h1 h2 h3 HB hb2
  go_wp2_with fail
  refine HI.out.mono ?_
  rintro e w3 ⟨rfl, ho, hb3⟩
  have h3 := H1.out.mono hb3
  have hnk : ¬ K w2.heap.size := fun e => by have := H1.out.kl _ e; omega
  have hlen : ((s0 2).at (bkt (s0 2).hd.length (⟨#[97]⟩ : ByteArray))).length = 0 := by rw [s0_at]; rfl
  have hal := opB_al (z := 8) (s := s0 2) good_a true 7
  rw [hlen] at hal
  have HD := hide2 (done_alone (most := 8) h3 rfl ho hnk hal (by rw [opB_st]; decide) (by decide) (by decide) (by decide))
  have hs2 := HB2.out.size
  have hb03 : Below w.heap.size w w3 := HB2.out.trans ⟨hb3.os, hb3.tape, hb3.output, hb3.size, fun j hj => hb3.block j (by omega)⟩
  have HB3 := hide2 hb03
  have hs3 := hb03.size
  clear HI ho hb3 h3 hal hb03
  go_wp2_with fail
  refine HD.out.mono ?_
  rintro e w4 ⟨n, s', o', K', rfl, hn1, hst, hfin, h4, ho4, hK4, hF4⟩
  have hr : o'.r = 7 ∧ o'.had = false ∧ o'.code = 0 := by
    rcases hfin with ⟨e, he, _⟩ | ⟨_, hx⟩
    · rw [s0_at] at he; cases he
    · rcases hx with hx | hx | hx
      · cases hx.1
      · exact absurd hx.2.1 (by rw [s0_cells]; decide)
      · exact ⟨hx.2.2.1, hx.2.2.2.1, hx.2.2.2.2.1⟩
  obtain ⟨hr1, hr2, hr3⟩ := hr
  have hrf := ref_any ho4 hst
  rw [hr1, hr2, hr3] at hrf
  have HRF := hide2 hrf
  have hb4 : Below w.heap.size w w4 := HB3.out.trans (hF4.to (fun j hj e => by
    rcases e with e | e
    · have := HK.out j e; omega
    · omega) hs3)
  have HB4 := hide2 hb4
  have hni : (0 : Int) < (n : Int) := by omega
  clear HD hfin h4 ho4 hK4 hF4 hrf hb4
  go_wp2_with fail
  refine HRF.out.mono ?_
  rintro e w5 ⟨rfl, q, hw5⟩
  go_wp2
  go_ret
  exact ⟨rfl, HB4.out.trans (below_drewN _ _ _)⟩

set_option maxHeartbeats 1000000 in
theorem keys_nil (w : World) : Calls Tryd.prog 17 #[.pointer none] w fun e w' => e = .returned (.slice none 0 0) ∧ w' = w := by
  have HN := hide2 (isNone_nil w)
  go_enter Tryd.func17, Tryd.ntmps17
  go_wp2_with fail
  refine HN.out.mono ?_
  rintro e w0 ⟨rfl, q0⟩
  subst q0
  go_wp2
  go_ret
  exact ⟨rfl, rfl⟩
end
end Go.Proofs.YtbpihkojmbfccaaDoor
