/-
  XmR: What ModelReads asks besides: the law's own search, with its place; a model of which less is kept.
-/
import Derived.Test.YtheidhkmmihjlaaXmQ
set_option linter.unusedVariables false
set_option linter.unusedSimpArgs false
namespace Go.Proofs.Ytheidhkmmihjlaa
open Go.RowKit
open ML (Ro RS Srt nless fstOf od nl_irr nl_tr nl_tot)
attribute [local go_sem] Oper.semAt_some

theorem Mo.sub {B : Nat} {K K' : List Nat} {w : World} {X : Nat} {S : Ms} (h : Mo B K w X S) (hs : ∀ j ∈ K', j ∈ K) : Mo B K' w X S := by
  obtain ⟨b, c, hP, h1, h2, h3, h4, h5⟩ := h
  exact ⟨b, c, hP, h1, h2, h3, h4, fun j hj => h5 j (hs j hj)⟩
theorem srt_next {L : List Ro} (h : Srt L) {i : Nat} {x y : Ro} (hi : 0 < i) (hx : L[i]? = some x) (hy : L[i - 1]? = some y) : nless y.k x.k = true := by
  obtain ⟨h1, e1⟩ := List.getElem?_eq_some_iff.1 hx
  obtain ⟨h2, e2⟩ := List.getElem?_eq_some_iff.1 hy
  have := List.pairwise_iff_getElem.1 h (i - 1) i h2 h1 (by omega)
  rw [e1, e2] at this
  exact this
/-- A key's place. -/
def fnd (k : ByteArray) : List Ro → Int → Int
  | [], _ => -1
  | x :: l, i => if x.k = k then i else fnd k l (i + 1)
theorem fnd_skip {k : ByteArray} : ∀ (j : Nat) (L : List Ro) (i : Int), (∀ x ∈ L.take j, x.k ≠ k) → fnd k L i = fnd k (L.drop j) (i + j)
  | 0, L, i, _ => by simp
  | j + 1, [], i, _ => by simp [fnd]
  | j + 1, x :: l, i, h => by
    have h1 : x.k ≠ k := h x (by simp)
    have h2 := fnd_skip j l (i + 1) (fun y hy => h y (by simp [hy]))
    show (if x.k = k then i else fnd k l (i + 1)) = fnd k (l.drop j) (i + ((j + 1 : Nat) : Int))
    rw [if_neg h1, h2]
    congr 1
    omega
theorem fnd_iff {k : ByteArray} : ∀ {L : List Ro} {i : Int}, 0 ≤ i → (0 ≤ fnd k L i ↔ ∃ x ∈ L, x.k = k)
  | [], i, _ => by simp [fnd]
  | x :: l, i, hi => by
    have ih := fnd_iff (k := k) (L := l) (i := i + 1) (by omega)
    unfold fnd
    by_cases e : x.k = k
    · rw [if_pos e]; exact ⟨fun _ => ⟨x, by simp, e⟩, fun _ => hi⟩
    · rw [if_neg e, ih]
      constructor
      · rintro ⟨y, hy, q⟩; exact ⟨y, by simp [hy], q⟩
      · rintro ⟨y, hy, q⟩
        rcases List.mem_cons.1 hy with rfl | hy
        · exact absurd q e
        · exact ⟨y, hy, q⟩
section
set_option maxHeartbeats 1000000
set_option maxRecDepth 100000
variable {w : World} {ao : Option Addr} {len cap : Nat} {L : List Ro}
theorem find_fnd (h : RS w ao len cap L) (k : ByteArray) : Calls Try.prog 22 #[.slice ao len cap, .string k] w fun e w' => e = .returned (.int .i64 (fnd k L 0)) ∧ w' = w := by
  obtain rfl := h.1
  have hmx : (L.length : Int) ≤ 9223372036854775807 := by have := h.2.1; have := h.2.2.1; unfold maxLen at this; omega
  have HA := xhide h
  clear h
  go_enter Try.func22, Try.ntmps22
  go_wp2_with fail
  go_loopw [5] (fun i wr => ∃ j : Nat, j ≤ L.length ∧ i = .int .i64 (j : Nat) ∧ Hid (∀ x ∈ L.take j, x.k ≠ k) ∧ wr = w) (fun i _ => L.length - (intOf i).toNat)
  case atStart => exact ⟨0, by omega, rfl, xhide (by simp), rfl⟩
  case round =>
    obtain ⟨j, hj, rfl, HN, rfl⟩ := hrel
    by_cases hlt : j < L.length
    · obtain ⟨x, hx⟩ := some_at rfl hlt
      obtain ⟨g, off, rfl, hgl, hc⟩ := ML.RS.at HA.out (by omega)
      have c0 := (hc j x hx).1
      have d1 : (j : Int) < (L.length : Int) := by omega
      have HTS := xhide (ML.take_snoc hx)
      have HX := xhide (List.mem_of_getElem? hx)
      have HF : Hid (fnd k L 0 = if x.k = k then (j : Int) else fnd k (L.drop (j + 1)) (j + 1)) := xhide (by
        obtain ⟨hlt, hx⟩ := List.getElem?_eq_some_iff.1 hx
        rw [fnd_skip j L 0 HN.out, List.drop_eq_getElem_cons hlt, hx]
        show (if x.k = k then (0 : Int) + j else fnd k (L.drop (j + 1)) (0 + j + 1)) = _
        rw [Int.zero_add])
      clear hc
      by_cases he : x.k = k
      · have te : (x.k.toList == k.toList) = true := by rw [he]; simp
        go_wp2
        go_ret
        exact ⟨by rw [HF.out, if_pos he]; rfl, rfl⟩
      · have te : (x.k.toList == k.toList) = false := by
          cases q : (x.k.toList == k.toList) with
          | false => rfl
          | true =>
            have e1 : x.k.toList = k.toList := by simpa using q
            rw [ByteArray.toList_eq, ByteArray.toList_eq] at e1
            exact absurd (ByteArray.ext (Array.toList_inj.1 e1)) he
        have NX : Hid (∀ y ∈ L.take (j + 1), y.k ≠ k) := xhide (fun y hy => by
          rw [HTS.out] at hy
          rcases List.mem_append.1 hy with q | q
          · exact HN.out y q
          · simp at q; rw [q]; exact he)
        go_wp2_with fail
        go_roundw
        case rel => exact ⟨j + 1, by omega, by go_num, NX, trivial⟩
        case measure => simp [intOf]; omega
    · have e1 : j = L.length := by omega
      subst e1
      have d1 : ¬ (L.length : Int) < (L.length : Int) := by omega
      have FIN : Hid (fnd k L 0 = -1) := xhide (by
        rw [fnd_skip L.length L 0 HN.out, List.drop_length]; rfl)
      go_wp2
      go_ret
      exact ⟨by rw [FIN.out]; rfl, rfl⟩
end
end Go.Proofs.Ytheidhkmmihjlaa
