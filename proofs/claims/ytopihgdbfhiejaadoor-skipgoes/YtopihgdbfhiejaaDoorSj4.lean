/-
  The law's sorted.
-/
import Derived.Test.YtopihgdbfhiejaaDoorSj1
import Derived.Test.YtopihgdbfhiejaaDoorSj3
set_option linter.unusedVariables false
set_option linter.unusedSimpArgs false
namespace Go.Proofs.YtopihgdbfhiejaaDoor
open Go.RowKit Go.Maps Go.Sort

abbrev sx (x : List UInt8) : List Value := [encStr x]
theorem str_seq {w : World} {base : Nat} {v : Value} {ts : List (List UInt8)} (h : w.ownsRow base 9 1 v ts.length (ts.map encStr)) : ∃ ao cap, v = .slice ao ts.length cap ∧ Seq 1 sx w ao ts.length cap ts := by
  rcases h.2 with ⟨rfl, h0⟩ | ⟨g, cap, cur, rfl, hg, hh, hn, hm, hs, ht⟩
  · refine ⟨none, 0, by rw [h0], rfl, by omega, Nat.zero_le _, fun h => absurd h (by omega)⟩
  · refine ⟨_, cap, rfl, rfl, hn, hm, fun hl => ⟨g, 0, rfl, (Array.getElem?_eq_some_iff.1 hh).1, fun i x hi j u hu => ?_⟩⟩
    have hj0 : j = 0 := by
      rcases j with _ | j
      · rfl
      · simp [sx] at hu
    subst hj0
    have hil := (List.getElem?_eq_some_iff.1 hi).1
    have hown : w.ownsRow base 9 1 (.slice (some ⟨g, 0, none⟩) ts.length cap) ts.length (ts.map encStr) := h
    rw [Nat.zero_add, Nat.mul_one, Nat.add_zero, hown.cellAt i (by omega), List.getElem?_map, hi]
    simpa [sx] using hu

theorem drewN_add (w : World) (a b : Nat) : (w.drewN a).drewN b = w.drewN (a + b) := by
  unfold World.drewN
  simp [Nat.add_assoc]

section
variable {w : World}
set_option maxRecDepth 100000 in
set_option maxHeartbeats 4000000 in
theorem sorted_any {ao bo : Option Addr} {len cap bl bc2 : Nat} {ts : List (List UInt8)} {xs : List AskR} (hs : Seq 1 sx w ao len cap ts) (hx : Seq 5 AskR.cells w bo bl bc2 xs) (hl : len = bl) (hm : ∀ x ∈ ts, ∃ a ∈ xs, a.key.data.toList = x)
    (hp : ts.Pairwise (fun x y => x ≤ y)) (hn : ts.Nodup) :
    Calls Tryd.prog 21 #[.slice ao len cap, .slice bo bl bc2] w fun e w' => e = .returned (.bool true) ∧ ∃ q, w' = w.drewN q := by
  have hcap := hs.2.1
  have hmax := hs.2.2.1
  unfold maxLen at hmax
  subst hl
  have HX := hide2 hx
  have HM := hide2 hm
  have HP := hide2 hp
  have HN := hide2 hn
  clear hx hm hp hn
  go_enter Tryd.func21, Tryd.ntmps21
  go_wp2
  go_loopw [5, 6] (fun i _ wr => ∃ n q : Nat, n ≤ len ∧ i = .int .i64 n ∧ wr = w.drewN q) (fun i _ _ => len - (intOf i).toNat)
  case atStart => exact ⟨0, 0, by omega, rfl, rfl⟩
  case round =>
    obtain ⟨n, q, hnl, rfl, hwr⟩ := hrel
    have hs' : Seq 1 sx wr ao len cap ts := by rw [hwr]; exact hs.keep (below_drewN _ _ _)
    have hx' := HX.out.keep (below_drewN w.heap.size w q)
    rw [← hwr] at hx'
    have HWR := hide2 hwr
    clear hwr
    by_cases hl : n < len
    · obtain ⟨b, off, rfl, hbl, hcell⟩ := hs'.2.2.2 (by omega)
      obtain ⟨x, hxn⟩ := some_at hs'.1 hl
      have q0 : wr.cell? ⟨b, off + n, none⟩ = some (encStr x) := by have := hcell n x hxn 0 _ rfl; simpa using this
      have hl2 : (n : Int) < (len : Int) := by omega
      have hl3 : decide (n < len) = true := decide_eq_true hl
      have hfind := find_any hx' (⟨x.toArray⟩ : ByteArray)
      have HFD := hide2 hfind
      obtain ⟨a, haa, hak⟩ := HM.out x (List.mem_of_getElem? hxn)
      have HA : Hid (∃ a ∈ xs, a.key = (⟨x.toArray⟩ : ByteArray)) := hide2 ⟨a, haa, by rw [← hak]⟩
      by_cases h0 : n = 0
      · have d2 : decide ((0 : Int) < (n : Int)) = false := by simp; omega
        have d3 : decide (0 < n) = false := by simp; omega
        have H0 := hide2 h0
        clear h0
        clear hcell hfind haa hak hs' hx'
        go_wp2_with fail
        refine HFD.out.mono ?_
        rintro e w1 ⟨⟨r, rfl, hr⟩, q1⟩
        subst q1
        have hr0 : (0 : Int) ≤ r := by
          rcases hr with ⟨-, h2⟩ | ⟨i, a2, h2, -⟩
          · obtain ⟨a3, h3, h4⟩ := HA.out
            exact absurd h4 (h2 a3 h3)
          · omega
        have d1 : decide (r < 0) = false := by simp; omega
        clear hr HFD
        go_wp2
        go_quiet (fail)
        go_wp2
        go_roundw
        case rel => exact ⟨n + 1, q + nq, by omega, by go_num, by rw [HWR.out]; exact drewN_add _ _ _⟩
        case measure => simp [intOf]; omega
      · obtain ⟨y, hyn⟩ := some_at hs'.1 (i := n - 1) (by omega)
        have q1 : wr.cell? ⟨b, off + (n - 1), none⟩ = some (encStr y) := by have := hcell (n - 1) y hyn 0 _ rfl; simpa using this
        have hlt : ¬ (x ≤ y) := by
          have hpw := List.pairwise_iff_getElem.1 HP.out (n - 1) n (by rw [hs'.1]; omega) (by rw [hs'.1]; omega) (by omega)
          have hne := List.pairwise_iff_getElem.1 HN.out (n - 1) n (by rw [hs'.1]; omega) (by rw [hs'.1]; omega) (by omega)
          have e1 : ts[n - 1]'(by rw [hs'.1]; omega) = y := by rw [List.getElem?_eq_getElem (by rw [hs'.1]; omega)] at hyn; exact Option.some.inj hyn
          have e2 : ts[n]'(by rw [hs'.1]; omega) = x := by rw [List.getElem?_eq_getElem (by rw [hs'.1]; omega)] at hxn; exact Option.some.inj hxn
          rw [e1, e2] at hpw hne
          exact fun h3 => hne (List.le_antisymm hpw h3)
        clear hcell hfind haa hak hs' hx'
        go_wp2_with fail
        refine HFD.out.mono ?_
        rintro e w1 ⟨⟨r, rfl, hr⟩, qq⟩
        subst qq
        have hr0 : (0 : Int) ≤ r := by
          rcases hr with ⟨-, h2⟩ | ⟨i, a2, h2, -⟩
          · obtain ⟨a3, h3, h4⟩ := HA.out
            exact absurd h4 (h2 a3 h3)
          · omega
        have d1 : decide (r < 0) = false := by simp; omega
        have d2 : decide ((0 : Int) < (n : Int)) = true := by simp; omega
        have d3 : decide (0 < n) = true := by simp; omega
        have d4 : IntKind.i64.wrap ((n : Int) - 1) = ((n - 1 : Nat) : Int) := by rw [IntKind.wrap_i64]; omega
        have d5 : ((n - 1 : Nat) : Int) < (len : Int) := by omega
        have d6 : n - 1 < len := by omega
        have hbl : Op.bytesLess y x = true := by rw [bytesLess_eq]; exact decide_eq_true (List.not_le.1 hlt)
        clear hr HFD hlt
        go_wp2
        go_quiet (fail)
        go_wp2
        go_roundw
        case rel => exact ⟨n + 1, q + nq, by omega, by go_num, by rw [HWR.out]; exact drewN_add _ _ _⟩
        case measure => simp [intOf]; omega
    · obtain rfl : n = len := by omega
      go_wp2
      go_ret
      exact ⟨rfl, q, HWR.out⟩

end
end Go.Proofs.YtopihgdbfhiejaaDoor
