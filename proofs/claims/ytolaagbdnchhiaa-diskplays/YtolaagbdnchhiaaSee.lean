/-
  A disk that is read: its names, its files.
-/
import Derived.Test.YtolaagbdnchhiaaRepCrash
set_option linter.unusedVariables false
set_option linter.unusedSimpArgs false
namespace Go.Proofs.Ytolaagbdnchhiaa
open Go.RowKit Go.Maps Go.Sort

/-- The names of a directory, rising. -/
def nm (L : DataW Value) : List ByteArray := ((strKeys L).mergeSort (fun x y => decide (x ≤ y))).map fun b => ⟨b.toArray⟩

/-- A directory with its names alone. -/
def strip : DataW Value → DataW Value
  | .map es => .map (es.map fun p => (p.1, no))
  | D => D
theorem strip_has (D : DataW Value) (k : Lit) : Maps.has (strip D) k = Maps.has D k := by
  cases D <;> try rfl
  simp [strip, Maps.has, List.any_map, Function.comp_def]
theorem strip_keys (D : DataW Value) : strKeys (strip D) = strKeys D := by
  cases D <;> try rfl
  simp [strip, strKeys]
theorem strip_canon {D : DataW Value} (h : Canon D) : Canon (strip D) := by
  obtain ⟨es, rfl, h1, h2⟩ := h
  refine ⟨es.map fun p => (p.1, no), rfl, ?_, fun p hp => ?_⟩
  · rw [List.pairwise_map]
    exact h1
  · obtain ⟨q, hq, rfl⟩ := List.mem_map.1 hp
    exact h2 q hq
theorem strip_at {D : DataW Value} {k : Lit} (h : Maps.has (strip D) k = true) (z : DataW Value) : (strip D).atKey k z = no := by
  cases D with
  | map es =>
    have h' : Maps.has (DataW.map es) k = true := by rw [← strip_has]; exact h
    obtain ⟨p, hp, hk⟩ := List.any_eq_true.1 h'
    simp only [strip, DataW.atKey, List.find?_map, Function.comp_def]
    cases hf : es.find? (fun q => q.1.sameKey k) with
    | none =>
      rw [List.find?_eq_none] at hf
      exact absurd hk (hf p hp)
    | some q => simp
  | _ => cases h
theorem nm_eq {L M : DataW Value} (h1 : Canon L) (h2 : Canon M) (h : ∀ k, Maps.has L k = Maps.has M k) : nm L = nm M := by
  have e : strip L = strip M := ext (strip_canon h1) (strip_canon h2) (fun k => by rw [strip_has, strip_has, h k]) (fun k z hk => by rw [strip_at hk, strip_at (by rw [strip_has, ← h k, ← strip_has]; exact hk)])
  unfold nm
  rw [← strip_keys L, ← strip_keys M, e]

theorem mem_nm {L : DataW Value} {w : World} {b n : Nat} (ho : w.ownsMap Try.prog 9 RV b n L) {s : ByteArray} (h : s ∈ nm L) : Maps.has L (kl s) = true := by
  obtain ⟨x, hx, rfl⟩ := List.mem_map.1 h
  have hx2 : x ∈ strKeys L := ((List.mergeSort_perm _ _).mem_iff).1 hx
  obtain ⟨es, rfl, hk⟩ := ho.keysOf
  obtain ⟨p, hp, rfl⟩ := List.mem_map.1 hx2
  refine List.any_eq_true.2 ⟨p, hp, ?_⟩
  obtain ⟨v, hv⟩ := hk p hp
  obtain ⟨y, rfl, e, _⟩ := Maps.keyOf_str Try.underlying9 hv
  rw [e]
  exact WideAt.sameKey_self trivial

theorem see_names {w : World} {d : Nat} {E : DataW Value} {C : Nat → Option (List Int)} {ops : Int} (h : Seen w d E C ops) (hsz : ∀ s, Maps.has E (kl s) = true → s.size ≤ maxLen) :
    Calls Try.prog 23 #[.pointer (some ⟨d, 0, none⟩)] w fun e w' => ∃ ao len cap L, e = .returned (.slice ao len cap) ∧ Canon L ∧ (∀ k, Maps.has L k = Maps.has E k) ∧ St w' ao len cap (nm L) ∧ (∀ s ∈ nm L, Maps.has E (kl s) = true) ∧ Below w.heap.size w w' := by
  obtain ⟨nb, n, syn, since, cutAt, cuts, L, B, h1, h2, h3, h4, h5⟩ := h.it
  have hsL := h2.size_le
  refine (names_any h1 h2 (by omega)).mono ?_
  rintro e w' ⟨v, ss, rfl, hp, hrow, hnil, hb⟩
  have hm : ss.mergeSort (fun x y => decide (x ≤ y)) = (strKeys L).mergeSort (fun x y => decide (x ≤ y)) := mergeSort_of_perm hp
  have hmem : ∀ s ∈ nm L, Maps.has E (kl s) = true := fun s hs => by rw [← h4]; exact mem_nm h2 hs
  have hlen : (nm L).length = ss.length := by
    unfold nm
    rw [List.length_map, ← hm, List.length_mergeSort]
  rcases hrow.2 with ⟨rfl, h0⟩ | ⟨g, cap, cur, rfl, hg, hh, hn, hm2, hcs, hct⟩
  · refine ⟨none, 0, 0, L, rfl, h2.canon dirKeyed, h4, ⟨by omega, Nat.le_refl _, Nat.zero_le _, fun s hs => hsz s (hmem s hs), fun h => absurd h (by omega)⟩, hmem, hb⟩
  · refine ⟨some ⟨g, 0, none⟩, ss.length, cap, L, rfl, h2.canon dirKeyed, h4, ⟨hlen, hn, hm2, fun s hs => hsz s (hmem s hs), fun _ => ⟨g, 0, rfl, (Array.getElem?_eq_some_iff.1 hh).1, fun i hi => ?_⟩⟩, hmem, hb⟩
    rw [Nat.zero_add, Go.Joins.cell_of_block hh, ← Array.getElem?_toList]
    have e1 : (cur.toList.take (ss.length * 1))[i]? = ((ss.mergeSort (fun x y => decide (x ≤ y))).map encStr)[i]? := by rw [hct]
    rw [List.getElem?_take_of_lt (by omega), hm] at e1
    rw [e1]
    have hi2 : i < ((strKeys L).mergeSort (fun x y => decide (x ≤ y))).length := by rw [← hm, List.length_mergeSort]; exact hi
    simp only [nm, List.getD, List.getElem?_map, List.getElem?_eq_getElem hi2, Option.map_some, Option.getD_some]

theorem see_read {w : World} {d : Nat} {E : DataW Value} {C : Nat → Option (List Int)} {ops : Int} (h : Seen w d E C ops) (s : ByteArray) (hn : isName s = true) (f : Nat) (xs : List Int) (hf : ∀ z, E.atKey (kl s) z = pt f) (hc : C f = some xs) :
    Calls Try.prog 22 #[.pointer (some ⟨d, 0, none⟩), .string s] w fun e w' => ∃ ao len cap, e = .returned (.tuple #[.slice ao len cap, .int .i64 0]) ∧ Sl w' ao len cap xs ∧ Below w.heap.size w w' := by
  obtain ⟨nb, n, syn, since, cutAt, cuts, L, B, h1, h2, h3, h4, h5⟩ := h.it
  obtain ⟨f', v, sy, b1, b2, b3, b4, b5⟩ := h5 s f xs hf hc
  obtain ⟨ao, l, cap, rfl, hsl, _⟩ := b3.sl' b4
  refine (read_ok h1 (.inr ⟨nb, n, rfl, h2⟩) s hn f' sy (b1 _) ao l cap xs b2 hsl (by have := hsl.1; omega)).mono ?_
  rintro e w' ⟨v', rfl, own, hb⟩
  obtain ⟨ao', l', cap', rfl, hsl', _⟩ := own.sl' b4
  exact ⟨ao', l', cap', rfl, hsl', hb⟩

theorem see_ops {w : World} {d : Nat} {E : DataW Value} {C : Nat → Option (List Int)} {ops : Int} (h : Seen w d E C ops) : Calls Try.prog 26 #[.pointer (some ⟨d, 0, none⟩)] w fun e w' => e = .returned (.int .i64 ops) ∧ w' = w := by
  obtain ⟨nb, n, syn, since, cutAt, cuts, L, B, h1, _⟩ := h.it
  exact ops_any h1

set_option maxHeartbeats 1000000 in
/-- Two rows of the same names. -/
theorem same_any {w : World} {ao bo : Option Addr} {len cap cap' : Nat} {ss : List ByteArray} (h1 : St w ao len cap ss) (h2 : St w bo len cap' ss) :
    Calls Try.prog 24 #[.slice ao len cap, .slice bo len cap'] w fun e w' => e = .returned (.bool true) ∧ ∃ q, w' = w.drewN q := by
  have hlen : (len : Int) ≤ 9223372036854775807 := by have := h1.2.1; have := h1.2.2.1; unfold maxLen at this; omega
  go_enter Try.func24, Try.ntmps24
  go_wp2
  go_loopw [5] (fun i wr => ∃ k q : Nat, k ≤ len ∧ i = .int .i64 (k : Int) ∧ wr = w.drewN q) (fun i _ => len - (intOf i).toNat)
  case atStart => exact ⟨0, 0, by omega, rfl, rfl⟩
  case round =>
    obtain ⟨k, q, hk, rfl, rfl⟩ := hrel
    by_cases hlt : k < len
    · obtain ⟨b, off, rfl, _, hc⟩ := h1.2.2.2.2 (by omega)
      obtain ⟨b', off', rfl, _, hc'⟩ := h2.2.2.2.2 (by omega)
      have k1 := hc k hlt
      have k2 := hc' k hlt
      generalize ss.getD k ByteArray.empty = s at k1 k2
      have hi1 : (k : Int) < (len : Int) := by omega
      have hss : (s.toList != s.toList) = false := by simp
      clear hc hc' h1 h2
      go_wp2
      go_quiet (fail)
      go_wp2
      go_roundw
      case rel => exact ⟨k + 1, _, by omega, by go_num, rfl⟩
      case measure => simp [intOf]; omega
    · obtain rfl : k = len := by omega
      clear h1 h2
      go_wp2
      go_ret
      exact ⟨rfl, _, rfl⟩

set_option maxHeartbeats 1000000 in
theorem begins_any (a b : ByteArray) (w : World) (hb : b.size ≤ maxLen) (hab : a.size ≤ b.size) (he : b.extract 0 a.size = a) :
    Calls Try.prog 25 #[.string a, .string b] w fun e w' => e = .returned (.bool true) ∧ w' = w := by
  unfold maxLen at hb
  have h1 : (a.size : Int) ≤ (b.size : Int) := by omega
  have HE := hide2 he
  clear he
  go_enter Try.func25, Try.ntmps25
  go_wp2
  go_ret
  refine ⟨ret_bool ?_, rfl⟩
  rw [HE.out]
  simp

theorem strOf_size (xs : List Int) : (strOfNums xs).size = xs.length := by
  have : (strOfNums xs).data.toList.length = xs.length := by rw [strOfNums_data]; simp
  rw [← this, Array.length_toList]
  rfl
theorem strOf_extract (ys : List Int) (m : Nat) (h : m ≤ ys.length) : (strOfNums ys).extract 0 (strOfNums (ys.take m)).size = strOfNums (ys.take m) := by
  rw [strOf_size, List.length_take, Nat.min_eq_left h]
  apply ByteArray.ext
  apply Array.toList_inj.1
  rw [strOfNums_data, ByteArray.data_extract, Array.toList_extract]
  simp [List.extract, strOfNums_data, List.map_take]

theorem shr_zero (n : Nat) : shr 0 n = 0 := by unfold shr; omega
theorem left_zero (ke : Int) (x : List Int × Nat) : leftOf ke 0 x = x.1.take (x.2 + shr ke (x.1.length - x.2)) := by
  unfold leftOf
  rw [shr_zero, turnL_zero]
theorem shr_mono {a b : Int} (h : a ≤ b) (n : Nat) : shr a n ≤ shr b n := by unfold shr; omega
theorem left_mono {a b : Int} (h : a ≤ b) (x : List Int × Nat) (hx : x.2 ≤ x.1.length) : ∃ m, m ≤ (leftOf b 0 x).length ∧ leftOf a 0 x = (leftOf b 0 x).take m := by
  refine ⟨x.2 + shr a (x.1.length - x.2), ?_, ?_⟩
  · rw [left_zero, List.length_take]
    have := shr_le b (x.1.length - x.2)
    have := shr_mono h (x.1.length - x.2)
    omega
  · rw [left_zero, left_zero, List.take_take, Nat.min_eq_left (by have := shr_mono h (x.1.length - x.2); omega)]
theorem left_all (x : List Int × Nat) (hx : x.1.length ≤ 262144) (h2 : x.2 ≤ x.1.length) : leftOf 262144 0 x = x.1 := by
  rw [left_zero, List.take_of_length_le]
  unfold shr
  omega

set_option maxHeartbeats 2000000 in
theorem names_nil {w : World} {d : Nat} {syn since : Value} {ops cutAt : Int} {cuts gone : Bool} (h : Dk w d (.map none) syn since ops cutAt cuts gone) :
    Calls Try.prog 23 #[.pointer (some ⟨d, 0, none⟩)] w fun e w' => e = .returned (.slice none 0 0) ∧ Below w.heap.size w w' := by
  refine (callsIn_wide (n := 6)).1 ?_
  obtain ⟨c0, c1, c2, c3, c4, c5, c6⟩ := h.cells
  have cK : ∀ W, CallsIn Fence.wide 5 Try.prog 56 #[.map none] W _ := fun W => keys_any none W
  have cS := sortedKeys_nil w
  have hfK : Fence.wide.fn 56 := trivial
  have hfS : Fence.wide.fn 55 := trivial
  refine callsIn_of_wp Try.func23 rfl trivial ?_ rfl
  simp only [Try.ntmps23, List.size_toArray, List.length_cons, List.length_nil, Nat.reduceAdd, Nat.reduceSub, Array.replicate_succ, Array.replicate_zero, List.push_toArray, List.append_toArray, List.nil_append, List.cons_append]
  gi_wp2_with (first
    | (gi_at_call 56; refine (cK _).mono ?_; rintro e w' ⟨rfl, rfl⟩)
    | (gi_at_call 55; refine cS.mono ?_; rintro e w' ⟨v, ss, rfl, rfl, hrow, hnil, hb⟩; obtain rfl : v = .slice none 0 0 := hnil.2 rfl))
  go_ret
  exact ⟨rfl, ((Below.refl _ w).alloc (Nat.le_refl _) _).trans (hb.mono (by simp))⟩

theorem nm_empty : nm (.map []) = [] := by simp [nm, strKeys]

theorem rep_names {w : World} {B d : Nat} {S : AD} (h : Rep w B d S) (ok : S.ok) (hp : S.plain) (hsz : ∀ s, Maps.has (dn S.now) (kl s) = true → s.size ≤ maxLen) :
    Calls Try.prog 23 #[.pointer (some ⟨d, 0, none⟩)] w fun e w' => ∃ ao len cap L, e = .returned (.slice ao len cap) ∧ Canon L ∧ (∀ k, Maps.has L k = Maps.has (dn S.now) k) ∧ St w' ao len cap (nm L) ∧ (∀ s ∈ nm L, Maps.has (dn S.now) (kl s) = true) ∧ Below w.heap.size w w' := by
  rcases ok.isn with e | hm
  · obtain ⟨nb, sb, sv, cs, vf, M⟩ := h
    rcases M.now with ⟨rfl, _⟩ | ⟨b, n, rfl, ho⟩
    · refine (names_nil M.dk).mono ?_
      rintro e' w' ⟨rfl, hb⟩
      refine ⟨none, 0, 0, .map [], rfl, canon_empty, fun k => by rw [e]; rfl, ?_, ?_, hb⟩
      · rw [nm_empty]
        exact ⟨rfl, Nat.le_refl _, Nat.zero_le _, (fun s hs => by cases hs), fun h => absurd h (by omega)⟩
      · rw [nm_empty]
        exact fun s hs => by cases hs
    · obtain ⟨es, e2⟩ := ho.isMap
      rw [e] at e2
      cases e2
  · exact see_names (h.seen ok hp hm) hsz
end Go.Proofs.Ytolaagbdnchhiaa
