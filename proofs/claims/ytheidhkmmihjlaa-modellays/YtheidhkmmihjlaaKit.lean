/-
  Plain facts on lists of bytes and on slices of bytes in memory: no program in sight.
-/
import Derived.WalkKit
import Derived.WalkSpells
import Derived.WalkLawsBesides
import Derived.Laws.BytesArg
import Derived.Laws.CopyOwn
import Derived.Laws.AppendOwnNone
import Derived.Lib.AppendStr
set_option linter.unusedVariables false
set_option linter.unusedSimpArgs false
namespace Go.Proofs.Ytheidhkmmihjlaa
open Go.RowKit

/-- Each number is a byte's. -/
def Byt (xs : List Int) : Prop := ∀ x ∈ xs, 0 ≤ x ∧ x ≤ 255

theorem Byt.nil : Byt [] := fun _ h => by cases h
theorem Byt.cons {x : Int} {xs : List Int} (h : 0 ≤ x ∧ x ≤ 255) (hs : Byt xs) : Byt (x :: xs) := fun y hy => by
  rcases List.mem_cons.1 hy with rfl | hy
  · exact h
  · exact hs y hy
theorem Byt.append {xs ys : List Int} (h : Byt xs) (k : Byt ys) : Byt (xs ++ ys) := fun y hy => by
  rcases List.mem_append.1 hy with hy | hy
  · exact h y hy
  · exact k y hy
theorem Byt.take {xs : List Int} (h : Byt xs) (n : Nat) : Byt (xs.take n) := fun y hy => h y (List.mem_of_mem_take hy)
theorem Byt.drop {xs : List Int} (h : Byt xs) (n : Nat) : Byt (xs.drop n) := fun y hy => h y (List.mem_of_mem_drop hy)
theorem Byt.getD {xs : List Int} (h : Byt xs) (i : Nat) : 0 ≤ xs.getD i 0 ∧ xs.getD i 0 ≤ 255 := by
  by_cases hi : i < xs.length
  · simp only [List.getD, List.getElem?_eq_getElem hi, Option.getD_some]
    exact h _ (List.getElem_mem hi)
  · simp [List.getD, List.getElem?_eq_none (by omega : xs.length ≤ i)]

/-- Bytes as cells. -/
def bc (xs : List Int) : List Value := xs.map (Value.int .u8)
theorem bc_length (xs : List Int) : (bc xs).length = xs.length := by simp [bc]
theorem bc_append (xs ys : List Int) : bc (xs ++ ys) = bc xs ++ bc ys := by simp [bc]
theorem bc_one (xs : List Int) : ∀ u ∈ bc xs, u.oneCell' = true := by
  intro u hu
  simp only [bc, List.mem_map] at hu
  obtain ⟨x, _, rfl⟩ := hu
  rfl
theorem bc_get (xs : List Int) (j : Nat) (u : Value) (h : (bc xs)[j]? = some u) : j < xs.length ∧ u = .int .u8 (xs.getD j 0) := by
  have hj : j < xs.length := by
    rcases Nat.lt_or_ge j xs.length with h1 | h1
    · exact h1
    · rw [List.getElem?_eq_none (by simpa [bc] using h1)] at h
      cases h
  refine ⟨hj, ?_⟩
  simp only [bc, List.getElem?_map, List.getElem?_eq_getElem hj, Option.map_some, Option.some.injEq] at h
  rw [← h]
  simp [List.getD, List.getElem?_eq_getElem hj]

/-- The text of bytes; two lists of bytes are one if their texts are. -/
theorem str_inj {xs ys : List Int} (hx : Byt xs) (hy : Byt ys) (h : strOfNums xs = strOfNums ys) : xs = ys := by
  have h2 : (strOfNums xs).data.toList = (strOfNums ys).data.toList := by rw [h]
  rw [strOfNums_data, strOfNums_data] at h2
  have key : ∀ zs : List Int, Byt zs → (zs.map fun n => UInt8.ofNat n.toNat).map (fun u => (u.toNat : Int)) = zs := by
    intro zs hz
    rw [List.map_map]
    conv => rhs; rw [← List.map_id zs]
    apply List.map_congr_left
    intro x hx
    have := hz x hx
    simp only [Function.comp, id_eq]
    have h3 : (UInt8.ofNat x.toNat).toNat = x.toNat := by
      simp only [UInt8.toNat_ofNat']
      omega
    rw [h3]
    omega
  rw [← key xs hx, ← key ys hy, h2]

theorem addr_add (g off i : Nat) : (⟨g, off, none⟩ : Addr).add i = ⟨g, off + i, none⟩ := by unfold Addr.add; split <;> simp_all

/-- A slice of bytes that is read: its elements are 'xs'; where there is one, they lie in a row of cells. -/
def Sl (w : World) (ao : Option Addr) (len cap : Nat) (xs : List Int) : Prop :=
  xs.length = len ∧ len ≤ cap ∧ cap ≤ maxLen ∧ Byt xs ∧ (ao = none → len = 0 ∧ cap = 0) ∧
  (0 < len → ∃ b off, ao = some ⟨b, off, none⟩ ∧ b < w.heap.size ∧ ∀ i, i < len → w.cell? ⟨b, off + i, none⟩ = some (.int .u8 (xs.getD i 0)))

theorem Sl.nil (w : World) : Sl w none 0 0 [] := ⟨rfl, Nat.le_refl _, Nat.zero_le _, Byt.nil, fun _ => ⟨rfl, rfl⟩, fun h => absurd h (by omega)⟩

theorem Sl.below {w w' : World} {ao : Option Addr} {len cap : Nat} {xs : List Int} (h : Sl w ao len cap xs) (hb : Below w.heap.size w w') : Sl w' ao len cap xs := by
  obtain ⟨h1, h2, h3, h4, h5, h6⟩ := h
  refine ⟨h1, h2, h3, h4, h5, fun hl => ?_⟩
  obtain ⟨b, off, e, hlt, hc⟩ := h6 hl
  exact ⟨b, off, e, Nat.lt_of_lt_of_le hlt hb.size, fun i hi => (hb.cell (p := ⟨b, off + i, none⟩) hlt).trans (hc i hi)⟩

/-- The same over a world of which only the blocks below B are as they were. -/
theorem Sl.below' {B : Nat} {w w' : World} {ao : Option Addr} {len cap : Nat} {xs : List Int} (h : Sl w ao len cap xs) (hb : Below B w w') (hB : ∀ b off, ao = some ⟨b, off, none⟩ → b < B) : Sl w' ao len cap xs := by
  obtain ⟨h1, h2, h3, h4, h5, h6⟩ := h
  refine ⟨h1, h2, h3, h4, h5, fun hl => ?_⟩
  obtain ⟨b, off, e, hlt, hc⟩ := h6 hl
  exact ⟨b, off, e, Nat.lt_of_lt_of_le hlt hb.size, fun i hi => (hb.cell (p := ⟨b, off + i, none⟩) (hB b off e)).trans (hc i hi)⟩

/-- A row of bytes that the call itself made, beginning at its block's head. -/
def Own (w : World) (base : Nat) (v : Value) (xs : List Int) : Prop := w.ownsRow base 5 1 v xs.length (bc xs)

/-- An own row that has an element, or that is no nil slice, written out. -/
theorem Own.sl {w : World} {base : Nat} {v : Value} {xs : List Int} (h : Own w base v xs) (hb : Byt xs) :
    ∃ ao cap, v = .slice ao xs.length cap ∧ Sl w ao xs.length cap xs ∧ ∀ b off, ao = some ⟨b, off, none⟩ → base ≤ b := by
  rcases h.2 with ⟨rfl, h0⟩ | ⟨g, cap, cur, rfl, hg, hh, hn, hm, hs, ht⟩
  · obtain rfl : xs = [] := List.eq_nil_of_length_eq_zero h0
    exact ⟨none, 0, rfl, Sl.nil w, fun b off e => by cases e⟩
  · refine ⟨some ⟨g, 0, none⟩, cap, rfl, ⟨rfl, hn, hm, hb, (fun e => by cases e), fun hl => ⟨g, 0, rfl, (Array.getElem?_eq_some_iff.1 hh).1, fun i hi => ?_⟩⟩, fun b off e => by cases e; exact hg⟩
    have hc := World.ownsRow.cells (show w.ownsRow base 5 1 (.slice (some ⟨g, 0, none⟩) xs.length cap) xs.length (bc xs) from ⟨h.1, .inr ⟨g, cap, cur, rfl, hg, hh, hn, hm, hs, ht⟩⟩) (g := g) rfl i (.int .u8 (xs.getD i 0)) (by
      simp [bc, List.getD, List.getElem?_eq_getElem hi])
    rw [addr_add] at hc
    exact hc

theorem Own.of_bc {w : World} {base : Nat} {v : Value} {n : Nat} {xs : List Int} (h : w.ownsRow base 5 1 v n (bc xs)) (hn : n = xs.length) : Own w base v xs := by subst hn; exact h

/-- The text of a slice of bytes. -/
theorem Sl.str {P : Program} {w : World} {ao : Option Addr} {len cap : Nat} {xs : List Int} (h : Sl w ao len cap xs) (src : TypeId) (hs : P.underlying src = some (.slice 5)) (he : P.underlying 5 = some (.int .u8)) (hd : P.underlying 9 = some .string) :
    (convert src 9 (.slice ao len cap)).run P w = .ok (.string (strOfNums xs)) w := by
  obtain ⟨h1, h2, h3, h4, h5, h6⟩ := h
  by_cases hl : 0 < len
  · obtain ⟨b, off, rfl, _, hc⟩ := h6 hl
    exact run_convert_bytes_arg w src 5 hs he b off len cap xs h1 hc 9 hd
  · obtain rfl : len = 0 := by omega
    obtain rfl : xs = [] := List.eq_nil_of_length_eq_zero h1
    cases ao with
    | none => exact run_convert_bytes_nil w src 5 hs he 0 cap 9 hd
    | some a =>
      rw [run_convert_bytes_string w src 9 5 _ 0 cap hs he hd]
      have := run_bytesToString (P := P) w a 0 cap [] (by simpa using run_loadCells_list (P := P) w a [] (fun j v hj => by simp at hj))
      rw [this]
      rfl

/-- A slice of bytes copied onto the head of a new row. -/
theorem Sl.copy {P : Program} {w : World} {ao : Option Addr} {len cap : Nat} {xs : List Int} (h : Sl w ao len cap xs) (t : TypeId) (hu : P.underlying t = some (.slice 5)) (hs : (P.info? 5).map (·.size) = some 1) (ty : TypeId)
    (cur : Array Value) (c : Nat) (hc : len ≤ cur.size) :
    ∃ w2, (Builtin.copy_ #[t, t] ty #[.slice (some ⟨w.heap.size, 0, none⟩) len c, .slice ao len cap]).run P (w.alloc (.cells cur 5)) = .ok (.int .i64 len) w2 ∧
      w2.heap[w.heap.size]? = some (.cells (bc xs ++ cur.toList.drop len).toArray 5 (0, 0)) ∧ Below w.heap.size w w2 := by
  obtain ⟨h1, h2, h3, h4, h5, h6⟩ := h
  have hb : Below w.heap.size w (w.alloc (.cells cur 5)) := (Below.refl _ _).alloc (Nat.le_refl _) _
  have hg := heap_alloc_new w (.cells cur 5)
  by_cases hl : 0 < len
  · obtain ⟨b, off, rfl, hlt, hcell⟩ := h6 hl
    have hr := run_copy_row (P := P) (w.alloc (.cells cur 5)) t t ty 5 w.heap.size 0 len c ⟨b, off, none⟩ len cap cur 5 (bc xs) hu hs hg (by rw [bc_length, h1]; exact (Nat.min_self _).symm)
      (fun j v hj => by
        obtain ⟨hj1, rfl⟩ := bc_get xs j v hj
        rw [addr_add, hb.cell (p := ⟨b, off + j, none⟩) hlt]
        exact hcell j (by omega)) (by rw [bc_length]; omega) (bc_one xs)
    refine ⟨_, hr.trans ?_, setRow_heap _ _ _ _ _ _ hg, ?_⟩
    · simp [goInt, bc_length, h1]
    · exact hb.trans ⟨rfl, rfl, rfl, by simp [World.setRow], fun k hk => setRow_other _ _ k _ (by omega)⟩
  · obtain rfl : len = 0 := by omega
    obtain rfl : xs = [] := List.eq_nil_of_length_eq_zero h1
    exact ⟨_, run_copy_none (P := P) _ t t ty 5 _ ao 0 c 0 cap hu hs rfl, by simpa [bc] using hg, hb⟩

/-- A row whose first cells are bytes is owned. -/
theorem Own.of_block {w : World} {base g cap : Nat} {xs : List Int} {rest : List Value} (hg : w.heap[g]? = some (.cells (bc xs ++ rest).toArray 5 (0, 0))) (hb : base ≤ g) (hc : cap = xs.length + rest.length) (hm : cap ≤ maxLen) :
    Own w base (.slice (some ⟨g, 0, none⟩) xs.length cap) xs :=
  ⟨by simp [bc], .inr ⟨g, cap, _, rfl, hb, hg, by omega, hm, by simp [bc]; omega, by simp [bc]⟩⟩

/-- An own row, its length a letter. -/
theorem Own.sl' {w : World} {base : Nat} {v : Value} {xs : List Int} (h : Own w base v xs) (hb : Byt xs) :
    ∃ ao len cap, v = .slice ao len cap ∧ Sl w ao len cap xs ∧ ∀ b off, ao = some ⟨b, off, none⟩ → base ≤ b := by
  obtain ⟨ao, cap, h1, h2, h3⟩ := h.sl hb
  exact ⟨ao, _, cap, h1, h2, h3⟩

/-- A part of a slice of bytes. -/
theorem Sl.sliced {w : World} {ao : Option Addr} {len cap : Nat} {xs : List Int} (h : Sl w ao len cap xs) (l k : Nat) (hlk : l ≤ k) (hk : k ≤ len) :
    ∃ ao', Go.sliced ao l k cap 1 = .slice ao' (k - l) (cap - l) ∧ Sl w ao' (k - l) (cap - l) ((xs.take k).drop l) := by
  obtain ⟨h1, h2, h3, h4, h5, h6⟩ := h
  refine ⟨_, rfl, ⟨by simp; omega, by omega, by omega, (h4.take _).drop _, ?_, ?_⟩⟩
  · intro e
    cases ao with
    | none => obtain ⟨rfl, rfl⟩ := h5 rfl; omega
    | some a => split at e <;> simp at e
  · intro hl
    obtain ⟨b, off, rfl, hlt, hc⟩ := h6 (by omega)
    refine ⟨b, off + l, ?_, hlt, fun i hi => ?_⟩
    · rw [if_neg (by omega)]
      simp [addr_add]
    · have := hc (l + i) (by omega)
      rw [Nat.add_assoc, this]
      have h7 : ((xs.take k).drop l).getD i 0 = xs.getD (l + i) 0 := by
        simp only [List.getD, List.getElem?_drop]
        rw [List.getElem?_take_of_lt (by omega)]
      rw [h7]

theorem Sl.drewN {w : World} {ao : Option Addr} {len cap : Nat} {xs : List Int} (h : Sl w ao len cap xs) (q : Nat) : Sl (w.drewN q) ao len cap xs := by
  obtain ⟨h1, h2, h3, h4, h5, h6⟩ := h
  refine ⟨h1, h2, h3, h4, h5, fun hl => ?_⟩
  obtain ⟨b, off, e, hlt, hc⟩ := h6 hl
  exact ⟨b, off, e, by simpa using hlt, fun i hi => by simpa using hc i hi⟩

/-- 'b[:k]'. -/
theorem Sl.upto {P : Program} {w : World} {ao : Option Addr} {len cap : Nat} {xs : List Int} (h : Sl w ao len cap xs) (t : TypeId) (ht : P.underlying t = some (.slice 5)) (hs : ∀ u : World, (Go.sizeOf 5).run P u = .ok 1 u) (k : Nat) (hk : k ≤ len) :
    ∃ ao', (∀ u : World, (Instr.slice t (.slice ao len cap) none (some (.int .i64 (k : Int))) none).run P u = .ok (.slice ao' k cap) u) ∧ Sl w ao' k cap (xs.take k) := by
  have ht' : P.underlying t = some (.slice (P.elem t)) := by simp [Program.elem, ht]
  have he : P.elem t = 5 := by simp [Program.elem, ht]
  have hc := h.2.1
  obtain ⟨ao', e, hsl⟩ := h.sliced 0 k (Nat.zero_le _) hk
  refine ⟨ao', ?_, by simpa using hsl⟩
  intro u
  rw [run_slice_h u t ao len cap ht' .i64 k (by omega) (by omega), he, hs]
  simp only [Result.andThen, Int.toNat_natCast]
  rw [e]
  simp

/-- 'b[l:k]'. -/
theorem Sl.part {P : Program} {w : World} {ao : Option Addr} {len cap : Nat} {xs : List Int} (h : Sl w ao len cap xs) (t : TypeId) (ht : P.underlying t = some (.slice 5)) (hs : ∀ u : World, (Go.sizeOf 5).run P u = .ok 1 u) (l k : Nat) (hlk : l ≤ k) (hk : k ≤ len) :
    ∃ ao', (∀ u : World, (Instr.slice t (.slice ao len cap) (some (.int .i64 (l : Int))) (some (.int .i64 (k : Int))) none).run P u = .ok (.slice ao' (k - l) (cap - l)) u) ∧ Sl w ao' (k - l) (cap - l) ((xs.take k).drop l) := by
  have ht' : P.underlying t = some (.slice (P.elem t)) := by simp [Program.elem, ht]
  have he : P.elem t = 5 := by simp [Program.elem, ht]
  have hc := h.2.1
  obtain ⟨ao', e, hsl⟩ := h.sliced l k hlk hk
  refine ⟨ao', ?_, hsl⟩
  intro u
  rw [run_slice_lh u t ao len cap ht' .i64 .i64 l k (by omega) (by omega) (by omega), he, hs]
  simp only [Result.andThen, Int.toNat_natCast]
  rw [e]

/-- 'b[l:]'. -/
theorem Sl.from {P : Program} {w : World} {ao : Option Addr} {len cap : Nat} {xs : List Int} (h : Sl w ao len cap xs) (t : TypeId) (ht : P.underlying t = some (.slice 5)) (hs : ∀ u : World, (Go.sizeOf 5).run P u = .ok 1 u) (l : Nat) (hl : l ≤ len) :
    ∃ ao', (∀ u : World, (Instr.slice t (.slice ao len cap) (some (.int .i64 (l : Int))) none none).run P u = .ok (.slice ao' (len - l) (cap - l)) u) ∧ Sl w ao' (len - l) (cap - l) (xs.drop l) := by
  have ht' : P.underlying t = some (.slice (P.elem t)) := by simp [Program.elem, ht]
  have he : P.elem t = 5 := by simp [Program.elem, ht]
  have hx := h.1
  obtain ⟨ao', e, hsl⟩ := h.sliced l len hl (Nat.le_refl _)
  refine ⟨ao', ?_, by rwa [List.take_of_length_le (by omega)] at hsl⟩
  intro u
  rw [run_slice_l u t ao len cap ht' .i64 l (by omega) (by omega), he, hs]
  simp only [Result.andThen, Int.toNat_natCast]
  rw [e]

/-- Whether two texts are one. -/
theorem str_eq {xs ys : List Int} (hx : Byt xs) (hy : Byt ys) : ((strOfNums xs).toList == (strOfNums ys).toList) = decide (xs = ys) := by
  rw [ByteArray.toList_eq, ByteArray.toList_eq]
  by_cases h : xs = ys
  · subst h; simp
  · have : ¬ (strOfNums xs).data = (strOfNums ys).data := fun e => h (str_inj hx hy (ByteArray.ext e))
    simp [h, this]

/-! ### Numbers as bytes -/
/-- The bytes of a number, with fuel. -/
def encF : Nat → Int → List Int
  | 0, _ => []
  | f + 1, n => if n < 128 then [n] else (n % 128 + 128) :: encF f (n / 128)
/-- The bytes of a number. -/
def enc (n : Int) : List Int := encF 10 n

theorem encF_byt : ∀ (f : Nat) (n : Int), 0 ≤ n → Byt (encF f n)
  | 0, _, _ => Byt.nil
  | f + 1, n, h => by
    unfold encF
    split
    · exact Byt.cons (by omega) Byt.nil
    · exact Byt.cons (by omega) (encF_byt f (n / 128) (by omega))
theorem enc_byt (n : Int) (h : 0 ≤ n) : Byt (enc n) := encF_byt 10 n h
theorem encF_len : ∀ (f : Nat) (n : Int), (encF f n).length ≤ f
  | 0, _ => by simp [encF]
  | f + 1, n => by
    unfold encF
    split
    · simp
    · have := encF_len f (n / 128)
      simp; omega
theorem enc_len (n : Int) : (enc n).length ≤ 10 := encF_len 10 n
theorem encF_succ : ∀ (f : Nat) (n : Int), 0 ≤ n → n < 128 ^ (f + 1) → encF (f + 2) n = encF (f + 1) n
  | 0, n, h0, h1 => by
    have h2 : n < 128 := by simpa using h1
    simp [encF, h2]
  | f + 1, n, h0, h1 => by
    have h2 : n / 128 < 128 ^ (f + 1) := by rw [Int.pow_succ] at h1; omega
    have ih := encF_succ f (n / 128) (by omega) h2
    rw [show encF (f + 1 + 2) n = if n < 128 then [n] else (n % 128 + 128) :: encF (f + 2) (n / 128) from rfl, show encF (f + 1 + 1) n = if n < 128 then [n] else (n % 128 + 128) :: encF (f + 1) (n / 128) from rfl, ih]
theorem enc_more (n : Int) (h : 128 ≤ n) (h1 : n < 18446744073709551616) : enc n = (n % 128 + 128) :: enc (n / 128) := by
  have e : encF 10 n = (n % 128 + 128) :: encF 9 (n / 128) := by
    rw [encF, if_neg (by omega)]
  unfold enc
  rw [e, encF_succ 8 (n / 128) (by omega) (by
    have : (128 : Int) ^ (8 + 1) = 9223372036854775808 := by decide
    omega)]
theorem enc_last (n : Int) (h : n < 128) : enc n = [n] := by
  unfold enc; rw [encF, if_pos h]
theorem enc_pos (n : Int) : 0 < (enc n).length := by
  unfold enc; rw [encF]; split <;> simp

/-- No number's bytes are the beginning of another one's. -/
theorem encF_apart : ∀ (f : Nat) (n m : Int) (r s : List Int), 0 ≤ n → n < 128 ^ (f + 1) → 0 ≤ m → m < 128 ^ (f + 1) → encF (f + 1) n ++ r = encF (f + 1) m ++ s → n = m ∧ r = s
  | 0, n, m, r, s, h0, h1, k0, k1, h => by
    have h2 : n < 128 := by simpa using h1
    have k2 : m < 128 := by simpa using k1
    simp [encF, h2, k2] at h
    exact h
  | f + 1, n, m, r, s, h0, h1, k0, k1, h => by
    have e : ∀ x : Int, encF (f + 1 + 1) x = if x < 128 then [x] else (x % 128 + 128) :: encF (f + 1) (x / 128) := fun x => rfl
    rw [e, e] at h
    by_cases h2 : n < 128 <;> by_cases k2 : m < 128
    · rw [if_pos h2, if_pos k2] at h
      simpa using h
    · rw [if_pos h2, if_neg k2] at h
      simp at h
      omega
    · rw [if_neg h2, if_pos k2] at h
      simp at h
      omega
    · rw [if_neg h2, if_neg k2] at h
      simp only [List.cons_append, List.cons.injEq] at h
      have hn : n / 128 < 128 ^ (f + 1) := by rw [Int.pow_succ] at h1; omega
      have hm : m / 128 < 128 ^ (f + 1) := by rw [Int.pow_succ] at k1; omega
      obtain ⟨e1, e2⟩ := encF_apart f (n / 128) (m / 128) r s (by omega) hn (by omega) hm h.2
      exact ⟨by omega, e2⟩
theorem enc_apart {n m : Int} {r s : List Int} (h0 : 0 ≤ n) (h1 : n ≤ 18446744073709551615) (k0 : 0 ≤ m) (k1 : m ≤ 18446744073709551615) (h : enc n ++ r = enc m ++ s) : n = m ∧ r = s := by
  have e : (128 : Int) ^ (9 + 1) = 1180591620717411303424 := by decide
  exact encF_apart 9 n m r s h0 (by omega) k0 (by omega) h
theorem enc_take {n m : Int} (h0 : 0 ≤ n) (h1 : n ≤ 18446744073709551615) (k0 : 0 ≤ m) (k1 : m ≤ 18446744073709551615) (k : Nat) (hk : (enc n).length = k) : (enc m).take k = enc n ↔ n = m := by
  constructor
  · intro h
    refine (enc_apart (r := (enc m).drop k) (s := []) h0 h1 k0 k1 ?_).1
    rw [← h, List.take_append_drop]; simp
  · rintro rfl
    rw [← hk]
    exact List.take_length

theorem or128 (m : Int) (h0 : 0 ≤ m) : bits BinOp.or IntKind.u8 (m % 256) 128 = m % 128 + 128 := by
  rw [u8_or (m % 256) 128 (by omega) (by omega) (by decide) (by decide)]
  have key : ∀ a : Fin 256, a.val ||| 128 = a.val % 128 + 128 := by decide +kernel
  have := key ⟨(m % 256).toNat, by omega⟩
  simp only [] at this
  rw [show (128 : Int).toNat = 128 from rfl, this]
  omega

/-- A byte put behind an own row, from a cell of its own. -/
theorem Own.snoc {w1 : World} {base : Nat} {v' : Value} {ys : List Int} {x : Int} (h : w1.ownsRow base 5 1 v' (ys.length + 1) (bc ys ++ [.int .u8 x])) : Own w1 base v' (ys ++ [x]) := by
  unfold Own
  rw [bc_append]
  simpa [bc] using h

/-- An own row stays below nothing that was there ahead of it. -/
theorem Own.grown {w w1 : World} {base : Nat} {v : Value} {ys : List Int} (h : Own w base v ys) (hg : w.grownBy w1 v.ownBlock) (hb : base ≤ w.heap.size) : Below base w w1 :=
  (Below.refl _ _).grown hg hb fun k hk => (World.ownsRow.lt h k hk).1

/-- How far a number's bytes have been put. -/
def Rest (all ys : List Int) (m : Int) : Prop := ys ++ enc m = all
theorem Rest.step {all ys : List Int} {m : Int} (h : Rest all ys m) (h0 : 128 ≤ m) (h1 : m ≤ 18446744073709551615) : Rest all (ys ++ [m % 128 + 128]) (m / 128) := by
  unfold Rest at *
  rw [← h, enc_more m h0 (by omega)]
  simp
theorem Rest.last {all ys : List Int} {m : Int} (h : Rest all ys m) (h0 : m < 128) : ys ++ [m] = all := by
  unfold Rest at *
  rw [← h, enc_last m h0]
theorem Rest.len {all ys : List Int} {m : Int} (h : Rest all ys m) : ys.length + 1 ≤ all.length := by
  unfold Rest at *
  have := enc_pos m
  rw [← h]; simp; omega

end Go.Proofs.Ytheidhkmmihjlaa
