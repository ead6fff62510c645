/-
  The walk of the law DiskNames: of every text, the program's look and the document's are the same.
-/
import Derived.Test.YtolaagbdnchhiaaShownD
import Derived.Test.YtolaagbdnchhiaaRefNames
import Derived.SliceStrings
import Derived.OpenShut
set_option linter.unusedVariables false
set_option linter.unusedSimpArgs false
namespace Go.Proofs.Ytolaagbdnchhiaa
open Go.RowKit Go.ChangeShapes Go.WideShapes Go.ChangeAt

/-- A slice of texts that is read. -/
def St (w : World) (ao : Option Addr) (len cap : Nat) (ss : List ByteArray) : Prop :=
  ss.length = len ∧ len ≤ cap ∧ cap ≤ maxLen ∧ (∀ s ∈ ss, s.size ≤ maxLen) ∧ (0 < len → ∃ b off, ao = some ⟨b, off, none⟩ ∧ b < w.heap.size ∧ ∀ i, i < len → w.cell? ⟨b, off + i, none⟩ = some (.string (ss.getD i ByteArray.empty)))

theorem St.below {w w' : World} {ao : Option Addr} {len cap : Nat} {ss : List ByteArray} (h : St w ao len cap ss) (hb : Below w.heap.size w w') : St w' ao len cap ss := by
  obtain ⟨h1, h2, h3, h4, h6⟩ := h
  refine ⟨h1, h2, h3, h4, fun hl => ?_⟩
  obtain ⟨b, off, e, hlt, hc⟩ := h6 hl
  exact ⟨b, off, e, Nat.lt_of_lt_of_le hlt hb.size, fun i hi => (hb.cell (p := ⟨b, off + i, none⟩) hlt).trans (hc i hi)⟩

theorem open_texts {H : Type} {enc : TypeId × Value → H} {P : Program} {W : World} {t : TypeId} {a : Option Addr} {len cap : Nat} {d : DataW H} {p : List MemPlace}
    (ht : P.underlying t = some (.slice 9)) (he : P.underlying 9 = some .string) (hc : P.cellsOf 9 = 1) (h : DataW.Trod enc P W 0 (fun _ => true) true t (.slice a len cap) d p) :
    ∃ ss, St W a len cap ss := by
  obtain ⟨fuel, hf⟩ := h
  rcases open_strings ht he hc hf with ⟨hcs, hd⟩ | ⟨x, l, c, zs, hcs, _, hl, hm, hz, hd, hcell, hwz⟩
  · simp [Value.cells] at hcs
    obtain ⟨rfl, rfl, rfl⟩ := hcs
    exact ⟨[], rfl, Nat.le_refl _, Nat.zero_le _, (fun s h => by cases h), fun h => absurd h (by omega)⟩
  · simp [Value.cells] at hcs
    obtain ⟨rfl, rfl, rfl⟩ := hcs
    have hz' : zs.length = cap := by simpa using hz
    refine ⟨zs.take len, ⟨by simp; omega, hl, hm, fun s hs => hwz s (List.mem_of_mem_take hs), fun hlen => ?_⟩⟩
    obtain ⟨b, off, sp⟩ := x
    have hc0 := hcell 0 (by omega)
    have hsp : sp = none := by simpa [Addr.add] using World.cell?_spot hc0
    subst hsp
    refine ⟨b, off, rfl, ?_, fun i hi => ?_⟩
    · rw [addr_add] at hc0
      exact World.block_lt_of_cell? W _ hc0
    · have := hcell i (by omega)
      rw [addr_add] at this
      rw [this]
      congr 2
      simp only [List.getD, List.getElem?_take_of_lt hi]

set_option maxHeartbeats 2000000 in
theorem diskNames_walk (ao : Option Addr) (len cap : Nat) (ss : List ByteArray) (w : World) (h : St w ao len cap ss) :
    Calls Try.prog 4 #[.slice ao len cap] w fun e w' => e = .returned (.bool true) ∧ Below w.heap.size w w' := by
  have hlen : (len : Int) ≤ 9223372036854775807 := by have := h.2.1; have := h.2.2.1; unfold maxLen at this; omega
  go_enter Try.func4, Try.ntmps4
  go_wp2_with fail
  refine (shown_any w).mono ?_
  rintro e w1 ⟨rfl, b1⟩
  have h1 := h.below b1
  go_wp2
  go_loopw [4] (fun i wr => ∃ k : Nat, k ≤ len ∧ i = .int .i64 (k : Int) ∧ St wr ao len cap ss ∧ Below w.heap.size w wr) (fun i _ => len - (intOf i).toNat)
  case atStart => exact ⟨0, by omega, rfl, h1, b1⟩
  case round =>
    obtain ⟨k, hk, rfl, hst, hbw⟩ := hrel
    clear h1 b1 h
    by_cases hlt : k < len
    · obtain ⟨b, off, rfl, hbl, hc⟩ := hst.2.2.2.2 (by omega)
      have hck := hc k hlt
      have hsz : (ss.getD k ByteArray.empty).size ≤ maxLen := by
        rw [List.getD, List.getElem?_eq_getElem (by rw [hst.1]; exact hlt)]
        exact hst.2.2.2.1 _ (List.getElem_mem _)
      generalize ss.getD k ByteArray.empty = s at hck hsz
      have hi1 : (k : Int) < (len : Int) := by omega
      clear hc
      have HST := hide2 hst
      have HBW := hide2 hbw
      clear hst hbw
      have hrr : (isName s != isName s) = false := by simp
      go_wp2
      go_quiet ((first | (go_at_call 14; exact Calls.quiet_of_same (isName_any _ _ hsz)) | (go_at_call 15; exact Calls.quiet_of_same (refIsName_any _ _ hsz))))
      go_wp2
      go_roundw
      case rel => exact ⟨k + 1, by omega, by go_num, HST.out.below ⟨rfl, rfl, rfl, Nat.le_refl _, fun _ _ => rfl⟩, HBW.out.trans ⟨rfl, rfl, rfl, Nat.le_refl _, fun _ _ => rfl⟩⟩
      case measure => simp [intOf]; omega
    · go_wp2
      go_ret
      exact ⟨rfl, hbw⟩
end Go.Proofs.Ytolaagbdnchhiaa
