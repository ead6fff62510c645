/-
  The law's least.
-/
import Derived.Test.YtcncimnhbggdaaaDoorSj4
set_option linter.unusedVariables false
set_option linter.unusedSimpArgs false
namespace Go.Proofs.YtcncimnhbggdaaaDoor
open Go.RowKit Go.Maps Go.Sort

/-- The least key of asks that is not below a text. -/
def Ls (xs : List AskR) (k : ByteArray) (r : Int) : Prop :=
  (r = -1 ∧ ∀ a ∈ xs, a.key.toList < k.toList) ∨ ∃ (i : Nat) (a : AskR), r = (i : Int) ∧ xs[i]? = some a ∧ ¬ a.key.toList < k.toList ∧ ∀ b ∈ xs, b.key.toList < k.toList ∨ ¬ b.key.toList < a.key.toList
section
variable {w : World}
set_option maxRecDepth 100000 in
set_option maxHeartbeats 4000000 in
theorem lst_any {ao : Option Addr} {len cap : Nat} {xs : List AskR} (hs : Seq 5 AskR.cells w ao len cap xs) (k : ByteArray) :
    Calls Tryd.prog 17 #[.slice ao len cap, .string k] w fun e w' => (∃ r : Int, e = .returned (.int .i64 r) ∧ Ls xs k r) ∧ ∃ q, w' = w.drewN q := by
  have hcap := hs.2.1
  have hmax := hs.2.2.1
  unfold maxLen at hmax
  go_enter Tryd.func17, Tryd.ntmps17
  go_wp2
  go_loopw [5, 6] (fun r i wr => ∃ (n q : Nat) (x : Int), n ≤ len ∧ i = .int .i64 n ∧ r = .int .i64 x ∧ wr = w.drewN q ∧ Hid (Ls (xs.take n) k x)) (fun _ i _ => len - (intOf i).toNat)
  case atStart => exact ⟨0, 0, -1, by omega, rfl, rfl, rfl, hide2 (.inl ⟨rfl, fun a ha => by simp at ha⟩)⟩
  case round =>
    obtain ⟨n, q, x, hnl, rfl, rfl, hwr, LL⟩ := hrel
    have hs' : Seq 5 AskR.cells wr ao len cap xs := by rw [hwr]; exact hs.keep (below_drewN _ _ _)
    have HWR := hide2 hwr
    clear hwr
    by_cases hl : n < len
    · obtain ⟨b, off, rfl, hbl, hcell⟩ := hs'.2.2.2 (by omega)
      obtain ⟨a, ha⟩ := some_at hs'.1 hl
      have q2 : wr.cell? ⟨b, off + n * 5 + 2, none⟩ = some (.string a.key) := hcell n a ha 2 _ rfl
      have hl2 : (n : Int) < (len : Int) := by omega
      have hn2 : n < xs.length := by rw [hs.1]; exact hl
      have hat : xs[n] = a := by rw [List.getElem?_eq_getElem hn2] at ha; exact Option.some.inj ha
      have HE : Hid (xs.take (n + 1) = xs.take n ++ [a]) := hide2 (by rw [← List.take_append_getElem hn2, hat])
      have HA := hide2 ha
      have ST : Hid (∀ y, Ls (xs.take n ++ [a]) k y → Ls (xs.take (n + 1)) k y) := hide2 (fun y h => by rw [HE.out]; exact h)
      by_cases hk : a.key.toList < k.toList
      · have HK := hide2 hk
        have hk2 : Op.bytesLess a.key.toList k.toList = true := by rw [bytesLess_eq]; exact decide_eq_true hk
        have hx : Hid (Ls (xs.take (n + 1)) k x) := hide2 (ST.out x (by
          rcases LL.out with ⟨h1, h2⟩ | ⟨i, c, h1, h2, h3, h4⟩
          · exact .inl ⟨h1, fun c hc => by rcases List.mem_append.1 hc with e | e; exact h2 c e; simp at e; subst e; exact HK.out⟩
          · exact .inr ⟨i, c, h1, by rw [List.getElem?_append_left (List.getElem?_eq_some_iff.1 h2).1]; exact h2, h3, fun c hc => by rcases List.mem_append.1 hc with e | e; exact h4 c e; simp at e; subst e; exact .inl HK.out⟩))
        clear hcell ha hat hk hs'
        go_wp2
        go_quiet (fail)
        go_wp2
        go_roundw
        case rel => exact ⟨n + 1, q + nq, x, by omega, by go_num, rfl, by rw [HWR.out]; exact drewN_add _ _ _, hx⟩
        case measure => simp [intOf]; omega
      · have HK := hide2 hk
        have hk2 : Op.bytesLess a.key.toList k.toList = false := by rw [bytesLess_eq]; exact decide_eq_false hk
        rcases LL.out with ⟨h1, h2⟩ | ⟨i, c, h1, h2, h3, h4⟩
        · have hx : Hid (Ls (xs.take (n + 1)) k (n : Int)) := hide2 (ST.out _ (.inr ⟨n, a, rfl, by
            rw [List.getElem?_append_right (by simp; omega)]
            simp [Nat.min_eq_left (Nat.le_of_lt hn2)], HK.out, fun c hc => by rcases List.mem_append.1 hc with e | e; exact .inl (h2 c e); simp at e; subst e; exact .inr (List.lt_irrefl _)⟩))
          have hx0 : decide (x < 0) = true := by rw [h1]; rfl
          clear hcell ha hat hk hs' h2
          subst h1
          go_wp2
          go_quiet (fail)
          go_wp2
          go_roundw
          case rel => exact ⟨n + 1, q + nq, n, by omega, by go_num, rfl, by rw [HWR.out]; exact drewN_add _ _ _, hx⟩
          case measure => simp [intOf]; omega
        · have hin : i < n := by have := (List.getElem?_eq_some_iff.1 h2).1; simp at this; omega
          have h2' : xs[i]? = some c := by rw [List.getElem?_take, if_pos hin] at h2; exact h2
          have q3 : wr.cell? ⟨b, off + i * 5 + 2, none⟩ = some (.string c.key) := hcell i c h2' 2 _ rfl
          have hil : (i : Int) < (len : Int) := by omega
          have hil2 : i < len := by omega
          have hi0 : decide ((i : Int) < 0) = false := by simp
          subst h1
          by_cases hc : a.key.toList < c.key.toList
          · have hc2 : Op.bytesLess a.key.toList c.key.toList = true := by rw [bytesLess_eq]; exact decide_eq_true hc
            have hx : Hid (Ls (xs.take (n + 1)) k (n : Int)) := hide2 (ST.out _ (.inr ⟨n, a, rfl, by
              rw [List.getElem?_append_right (by simp; omega)]
              simp [Nat.min_eq_left (Nat.le_of_lt hn2)], HK.out, fun y hy => by
                rcases List.mem_append.1 hy with e | e
                · exact (h4 y e).imp id (fun h5 h6 => h5 (List.lt_trans h6 hc))
                · simp at e; subst e; exact .inr (List.lt_irrefl _)⟩))
            clear hcell ha hat hk hs' h2 h2' h3 h4 hc
            go_wp2
            go_quiet (fail)
            go_wp2
            go_roundw
            case rel => exact ⟨n + 1, q + nq, n, by omega, by go_num, rfl, by rw [HWR.out]; exact drewN_add _ _ _, hx⟩
            case measure => simp [intOf]; omega
          · have hc2 : Op.bytesLess a.key.toList c.key.toList = false := by rw [bytesLess_eq]; exact decide_eq_false hc
            have hx : Hid (Ls (xs.take (n + 1)) k (i : Int)) := hide2 (ST.out _ (.inr ⟨i, c, rfl, by rw [List.getElem?_append_left (List.getElem?_eq_some_iff.1 h2).1]; exact h2, h3, fun y hy => by
                rcases List.mem_append.1 hy with e | e
                · exact h4 y e
                · simp at e; subst e; exact .inr hc⟩))
            clear hcell ha hat hk hs' h2 h2' h3 h4 hc
            go_wp2
            go_quiet (fail)
            go_wp2
            go_roundw
            case rel => exact ⟨n + 1, q + nq, i, by omega, by go_num, rfl, by rw [HWR.out]; exact drewN_add _ _ _, hx⟩
            case measure => simp [intOf]; omega
    · obtain rfl : n = len := by omega
      have HO : Hid (Ls xs k x) := hide2 (by
        have h := LL.out
        rw [show xs.take n = xs from by rw [← hs.1]; exact List.take_length] at h
        exact h)
      go_wp2
      go_ret
      exact ⟨⟨_, rfl, HO.out⟩, q, HWR.out⟩
end
end Go.Proofs.YtcncimnhbggdaaaDoor
