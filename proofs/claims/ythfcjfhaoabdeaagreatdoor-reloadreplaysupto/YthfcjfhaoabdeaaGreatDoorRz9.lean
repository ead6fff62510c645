/-
  Plain facts on lists of bytes and on slices of bytes in memory: no program in sight.
-/
import Derived.WalkKit
import Derived.WalkSpells
import Derived.WalkLawsBesides
import Derived.Laws.BytesArg
import Derived.Laws.CopyOwn
import Derived.Laws.AppendOwnNone
import Derived.Lib.AppendStr
set_option linter.unusedVariables false
set_option linter.unusedSimpArgs false
namespace Go.Proofs.YthfcjfhaoabdeaaGreatDoor
open Go.RowKit

/-- Each number is a byte's. -/
def Byt (xs : List Int) : Prop := ∀ x ∈ xs, 0 ≤ x ∧ x ≤ 255

theorem Byt.nil : Byt [] := fun _ h => by cases h
theorem Byt.cons {x : Int} {xs : List Int} (h : 0 ≤ x ∧ x ≤ 255) (hs : Byt xs) : Byt (x :: xs) := fun y hy => by
  rcases List.mem_cons.1 hy with rfl | hy
  · exact h
  · exact hs y hy
theorem Byt.append {xs ys : List Int} (h : Byt xs) (k : Byt ys) : Byt (xs ++ ys) := fun y hy => by
  rcases List.mem_append.1 hy with hy | hy
  · exact h y hy
  · exact k y hy
theorem Byt.take {xs : List Int} (h : Byt xs) (n : Nat) : Byt (xs.take n) := fun y hy => h y (List.mem_of_mem_take hy)
theorem Byt.drop {xs : List Int} (h : Byt xs) (n : Nat) : Byt (xs.drop n) := fun y hy => h y (List.mem_of_mem_drop hy)
theorem Byt.getD {xs : List Int} (h : Byt xs) (i : Nat) : 0 ≤ xs.getD i 0 ∧ xs.getD i 0 ≤ 255 := by
  by_cases hi : i < xs.length
  · simp only [List.getD, List.getElem?_eq_getElem hi, Option.getD_some]
    exact h _ (List.getElem_mem hi)
  · simp [List.getD, List.getElem?_eq_none (by omega : xs.length ≤ i)]

/-- Bytes as cells. -/
def bc (xs : List Int) : List Value := xs.map (Value.int .u8)
theorem bc_length (xs : List Int) : (bc xs).length = xs.length := by simp [bc]
theorem bc_append (xs ys : List Int) : bc (xs ++ ys) = bc xs ++ bc ys := by simp [bc]
theorem bc_one (xs : List Int) : ∀ u ∈ bc xs, u.oneCell' = true := by
  intro u hu
  simp only [bc, List.mem_map] at hu
  obtain ⟨x, _, rfl⟩ := hu
  rfl
theorem bc_get (xs : List Int) (j : Nat) (u : Value) (h : (bc xs)[j]? = some u) : j < xs.length ∧ u = .int .u8 (xs.getD j 0) := by
  have hj : j < xs.length := by
    rcases Nat.lt_or_ge j xs.length with h1 | h1
    · exact h1
    · rw [List.getElem?_eq_none (by simpa [bc] using h1)] at h
      cases h
  refine ⟨hj, ?_⟩
  simp only [bc, List.getElem?_map, List.getElem?_eq_getElem hj, Option.map_some, Option.some.injEq] at h
  rw [← h]
  simp [List.getD, List.getElem?_eq_getElem hj]

/-- The text of bytes; two lists of bytes are one if their texts are. -/
theorem str_inj {xs ys : List Int} (hx : Byt xs) (hy : Byt ys) (h : strOfNums xs = strOfNums ys) : xs = ys := by
  have h2 : (strOfNums xs).data.toList = (strOfNums ys).data.toList := by rw [h]
  rw [strOfNums_data, strOfNums_data] at h2
  have key : ∀ zs : List Int, Byt zs → (zs.map fun n => UInt8.ofNat n.toNat).map (fun u => (u.toNat : Int)) = zs := by
    intro zs hz
    rw [List.map_map]
    conv => rhs; rw [← List.map_id zs]
    apply List.map_congr_left
    intro x hx
    have := hz x hx
    simp only [Function.comp, id_eq]
    have h3 : (UInt8.ofNat x.toNat).toNat = x.toNat := by
      simp only [UInt8.toNat_ofNat']
      omega
    rw [h3]
    omega
  rw [← key xs hx, ← key ys hy, h2]

theorem addr_add (g off i : Nat) : (⟨g, off, none⟩ : Addr).add i = ⟨g, off + i, none⟩ := by unfold Addr.add; split <;> simp_all

/-- A slice of bytes that is read: its elements are 'xs'; where there is one, they lie in a row of cells. -/
def Sl (w : World) (ao : Option Addr) (len cap : Nat) (xs : List Int) : Prop :=
  xs.length = len ∧ len ≤ cap ∧ cap ≤ maxLen ∧ Byt xs ∧ (ao = none → len = 0 ∧ cap = 0) ∧
  (0 < len → ∃ b off, ao = some ⟨b, off, none⟩ ∧ b < w.heap.size ∧ ∀ i, i < len → w.cell? ⟨b, off + i, none⟩ = some (.int .u8 (xs.getD i 0)))

theorem Sl.nil (w : World) : Sl w none 0 0 [] := ⟨rfl, Nat.le_refl _, Nat.zero_le _, Byt.nil, fun _ => ⟨rfl, rfl⟩, fun h => absurd h (by omega)⟩

theorem Sl.below {w w' : World} {ao : Option Addr} {len cap : Nat} {xs : List Int} (h : Sl w ao len cap xs) (hb : Below w.heap.size w w') : Sl w' ao len cap xs := by
  obtain ⟨h1, h2, h3, h4, h5, h6⟩ := h
  refine ⟨h1, h2, h3, h4, h5, fun hl => ?_⟩
  obtain ⟨b, off, e, hlt, hc⟩ := h6 hl
  exact ⟨b, off, e, Nat.lt_of_lt_of_le hlt hb.size, fun i hi => (hb.cell (p := ⟨b, off + i, none⟩) hlt).trans (hc i hi)⟩

/-- A row of bytes that the call itself made, beginning at its block's head. -/
def Own (w : World) (base : Nat) (v : Value) (xs : List Int) : Prop := w.ownsRow base 5 1 v xs.length (bc xs)

/-- An own row that has an element, or that is no nil slice, written out. -/
theorem Own.sl {w : World} {base : Nat} {v : Value} {xs : List Int} (h : Own w base v xs) (hb : Byt xs) :
    ∃ ao cap, v = .slice ao xs.length cap ∧ Sl w ao xs.length cap xs ∧ ∀ b off, ao = some ⟨b, off, none⟩ → base ≤ b := by
  rcases h.2 with ⟨rfl, h0⟩ | ⟨g, cap, cur, rfl, hg, hh, hn, hm, hs, ht⟩
  · obtain rfl : xs = [] := List.eq_nil_of_length_eq_zero h0
    exact ⟨none, 0, rfl, Sl.nil w, fun b off e => by cases e⟩
  · refine ⟨some ⟨g, 0, none⟩, cap, rfl, ⟨rfl, hn, hm, hb, (fun e => by cases e), fun hl => ⟨g, 0, rfl, (Array.getElem?_eq_some_iff.1 hh).1, fun i hi => ?_⟩⟩, fun b off e => by cases e; exact hg⟩
    have hc := World.ownsRow.cells (show w.ownsRow base 5 1 (.slice (some ⟨g, 0, none⟩) xs.length cap) xs.length (bc xs) from ⟨h.1, .inr ⟨g, cap, cur, rfl, hg, hh, hn, hm, hs, ht⟩⟩) (g := g) rfl i (.int .u8 (xs.getD i 0)) (by
      simp [bc, List.getD, List.getElem?_eq_getElem hi])
    rw [addr_add] at hc
    exact hc

theorem Own.of_bc {w : World} {base : Nat} {v : Value} {n : Nat} {xs : List Int} (h : w.ownsRow base 5 1 v n (bc xs)) (hn : n = xs.length) : Own w base v xs := by subst hn; exact h

/-- The text of a slice of bytes. -/
theorem Sl.str {P : Program} {w : World} {ao : Option Addr} {len cap : Nat} {xs : List Int} (h : Sl w ao len cap xs) (src : TypeId) (hs : P.underlying src = some (.slice 5)) (he : P.underlying 5 = some (.int .u8)) (hd : P.underlying 9 = some .string) :
    (convert src 9 (.slice ao len cap)).run P w = .ok (.string (strOfNums xs)) w := by
  obtain ⟨h1, h2, h3, h4, h5, h6⟩ := h
  by_cases hl : 0 < len
  · obtain ⟨b, off, rfl, _, hc⟩ := h6 hl
    exact run_convert_bytes_arg w src 5 hs he b off len cap xs h1 hc 9 hd
  · obtain rfl : len = 0 := by omega
    obtain rfl : xs = [] := List.eq_nil_of_length_eq_zero h1
    cases ao with
    | none => exact run_convert_bytes_nil w src 5 hs he 0 cap 9 hd
    | some a =>
      rw [run_convert_bytes_string w src 9 5 _ 0 cap hs he hd]
      have := run_bytesToString (P := P) w a 0 cap [] (by simpa using run_loadCells_list (P := P) w a [] (fun j v hj => by simp at hj))
      rw [this]
      rfl

/-- A slice of bytes copied onto the head of a new row. -/
theorem Sl.copy {P : Program} {w : World} {ao : Option Addr} {len cap : Nat} {xs : List Int} (h : Sl w ao len cap xs) (t : TypeId) (hu : P.underlying t = some (.slice 5)) (hs : (P.info? 5).map (·.size) = some 1) (ty : TypeId)
    (cur : Array Value) (c : Nat) (hc : len ≤ cur.size) :
    ∃ w2, (Builtin.copy_ #[t, t] ty #[.slice (some ⟨w.heap.size, 0, none⟩) len c, .slice ao len cap]).run P (w.alloc (.cells cur 5)) = .ok (.int .i64 len) w2 ∧
      w2.heap[w.heap.size]? = some (.cells (bc xs ++ cur.toList.drop len).toArray 5 (0, 0)) ∧ Below w.heap.size w w2 := by
  obtain ⟨h1, h2, h3, h4, h5, h6⟩ := h
  have hb : Below w.heap.size w (w.alloc (.cells cur 5)) := (Below.refl _ _).alloc (Nat.le_refl _) _
  have hg := heap_alloc_new w (.cells cur 5)
  by_cases hl : 0 < len
  · obtain ⟨b, off, rfl, hlt, hcell⟩ := h6 hl
    have hr := run_copy_row (P := P) (w.alloc (.cells cur 5)) t t ty 5 w.heap.size 0 len c ⟨b, off, none⟩ len cap cur 5 (bc xs) hu hs hg (by rw [bc_length, h1]; exact (Nat.min_self _).symm)
      (fun j v hj => by
        obtain ⟨hj1, rfl⟩ := bc_get xs j v hj
        rw [addr_add, hb.cell (p := ⟨b, off + j, none⟩) hlt]
        exact hcell j (by omega)) (by rw [bc_length]; omega) (bc_one xs)
    refine ⟨_, hr.trans ?_, setRow_heap _ _ _ _ _ _ hg, ?_⟩
    · simp [goInt, bc_length, h1]
    · exact hb.trans ⟨rfl, rfl, rfl, by simp [World.setRow], fun k hk => setRow_other _ _ k _ (by omega)⟩
  · obtain rfl : len = 0 := by omega
    obtain rfl : xs = [] := List.eq_nil_of_length_eq_zero h1
    exact ⟨_, run_copy_none (P := P) _ t t ty 5 _ ao 0 c 0 cap hu hs rfl, by simpa [bc] using hg, hb⟩

/-- A row whose first cells are bytes is owned. -/
theorem Own.of_block {w : World} {base g cap : Nat} {xs : List Int} {rest : List Value} (hg : w.heap[g]? = some (.cells (bc xs ++ rest).toArray 5 (0, 0))) (hb : base ≤ g) (hc : cap = xs.length + rest.length) (hm : cap ≤ maxLen) :
    Own w base (.slice (some ⟨g, 0, none⟩) xs.length cap) xs :=
  ⟨by simp [bc], .inr ⟨g, cap, _, rfl, hb, hg, by omega, hm, by simp [bc]; omega, by simp [bc]⟩⟩

/-- An own row, its length a letter. -/
theorem Own.sl' {w : World} {base : Nat} {v : Value} {xs : List Int} (h : Own w base v xs) (hb : Byt xs) :
    ∃ ao len cap, v = .slice ao len cap ∧ Sl w ao len cap xs ∧ ∀ b off, ao = some ⟨b, off, none⟩ → base ≤ b := by
  obtain ⟨ao, cap, h1, h2, h3⟩ := h.sl hb
  exact ⟨ao, _, cap, h1, h2, h3⟩

/-- A part of a slice of bytes. -/
theorem Sl.sliced {w : World} {ao : Option Addr} {len cap : Nat} {xs : List Int} (h : Sl w ao len cap xs) (l k : Nat) (hlk : l ≤ k) (hk : k ≤ len) :
    ∃ ao', Go.sliced ao l k cap 1 = .slice ao' (k - l) (cap - l) ∧ Sl w ao' (k - l) (cap - l) ((xs.take k).drop l) := by
  obtain ⟨h1, h2, h3, h4, h5, h6⟩ := h
  refine ⟨_, rfl, ⟨by simp; omega, by omega, by omega, (h4.take _).drop _, ?_, ?_⟩⟩
  · intro e
    cases ao with
    | none => obtain ⟨rfl, rfl⟩ := h5 rfl; omega
    | some a => split at e <;> simp at e
  · intro hl
    obtain ⟨b, off, rfl, hlt, hc⟩ := h6 (by omega)
    refine ⟨b, off + l, ?_, hlt, fun i hi => ?_⟩
    · rw [if_neg (by omega)]
      simp [addr_add]
    · have := hc (l + i) (by omega)
      rw [Nat.add_assoc, this]
      have h7 : ((xs.take k).drop l).getD i 0 = xs.getD (l + i) 0 := by
        simp only [List.getD, List.getElem?_drop]
        rw [List.getElem?_take_of_lt (by omega)]
      rw [h7]

theorem Sl.drewN {w : World} {ao : Option Addr} {len cap : Nat} {xs : List Int} (h : Sl w ao len cap xs) (q : Nat) : Sl (w.drewN q) ao len cap xs := by
  obtain ⟨h1, h2, h3, h4, h5, h6⟩ := h
  refine ⟨h1, h2, h3, h4, h5, fun hl => ?_⟩
  obtain ⟨b, off, e, hlt, hc⟩ := h6 hl
  exact ⟨b, off, e, by simpa using hlt, fun i hi => by simpa using hc i hi⟩

/-- 'b[:k]'. -/
theorem Sl.upto {P : Program} {w : World} {ao : Option Addr} {len cap : Nat} {xs : List Int} (h : Sl w ao len cap xs) (t : TypeId) (ht : P.underlying t = some (.slice 5)) (hs : ∀ u : World, (Go.sizeOf 5).run P u = .ok 1 u) (k : Nat) (hk : k ≤ len) :
    ∃ ao', (∀ u : World, (Instr.slice t (.slice ao len cap) none (some (.int .i64 (k : Int))) none).run P u = .ok (.slice ao' k cap) u) ∧ Sl w ao' k cap (xs.take k) := by
  have ht' : P.underlying t = some (.slice (P.elem t)) := by simp [Program.elem, ht]
  have he : P.elem t = 5 := by simp [Program.elem, ht]
  have hc := h.2.1
  obtain ⟨ao', e, hsl⟩ := h.sliced 0 k (Nat.zero_le _) hk
  refine ⟨ao', ?_, by simpa using hsl⟩
  intro u
  rw [run_slice_h u t ao len cap ht' .i64 k (by omega) (by omega), he, hs]
  simp only [Result.andThen, Int.toNat_natCast]
  rw [e]
  simp

/-- 'b[l:k]'. -/
theorem Sl.part {P : Program} {w : World} {ao : Option Addr} {len cap : Nat} {xs : List Int} (h : Sl w ao len cap xs) (t : TypeId) (ht : P.underlying t = some (.slice 5)) (hs : ∀ u : World, (Go.sizeOf 5).run P u = .ok 1 u) (l k : Nat) (hlk : l ≤ k) (hk : k ≤ len) :
    ∃ ao', (∀ u : World, (Instr.slice t (.slice ao len cap) (some (.int .i64 (l : Int))) (some (.int .i64 (k : Int))) none).run P u = .ok (.slice ao' (k - l) (cap - l)) u) ∧ Sl w ao' (k - l) (cap - l) ((xs.take k).drop l) := by
  have ht' : P.underlying t = some (.slice (P.elem t)) := by simp [Program.elem, ht]
  have he : P.elem t = 5 := by simp [Program.elem, ht]
  have hc := h.2.1
  obtain ⟨ao', e, hsl⟩ := h.sliced l k hlk hk
  refine ⟨ao', ?_, hsl⟩
  intro u
  rw [run_slice_lh u t ao len cap ht' .i64 .i64 l k (by omega) (by omega) (by omega), he, hs]
  simp only [Result.andThen, Int.toNat_natCast]
  rw [e]

/-- 'b[l:]'. -/
theorem Sl.from {P : Program} {w : World} {ao : Option Addr} {len cap : Nat} {xs : List Int} (h : Sl w ao len cap xs) (t : TypeId) (ht : P.underlying t = some (.slice 5)) (hs : ∀ u : World, (Go.sizeOf 5).run P u = .ok 1 u) (l : Nat) (hl : l ≤ len) :
    ∃ ao', (∀ u : World, (Instr.slice t (.slice ao len cap) (some (.int .i64 (l : Int))) none none).run P u = .ok (.slice ao' (len - l) (cap - l)) u) ∧ Sl w ao' (len - l) (cap - l) (xs.drop l) := by
  have ht' : P.underlying t = some (.slice (P.elem t)) := by simp [Program.elem, ht]
  have he : P.elem t = 5 := by simp [Program.elem, ht]
  have hx := h.1
  obtain ⟨ao', e, hsl⟩ := h.sliced l len hl (Nat.le_refl _)
  refine ⟨ao', ?_, by rwa [List.take_of_length_le (by omega)] at hsl⟩
  intro u
  rw [run_slice_l u t ao len cap ht' .i64 l (by omega) (by omega), he, hs]
  simp only [Result.andThen, Int.toNat_natCast]
  rw [e]

/-- Whether two texts are one. -/
theorem str_eq {xs ys : List Int} (hx : Byt xs) (hy : Byt ys) : ((strOfNums xs).toList == (strOfNums ys).toList) = decide (xs = ys) := by
  rw [ByteArray.toList_eq, ByteArray.toList_eq]
  by_cases h : xs = ys
  · subst h; simp
  · have : ¬ (strOfNums xs).data = (strOfNums ys).data := fun e => h (str_inj hx hy (ByteArray.ext e))
    simp [h, this]

/-! ### Numbers as bytes -/
/-- The bytes of a number, with fuel. -/
def encF : Nat → Int → List Int
  | 0, _ => []
  | f + 1, n => if n < 128 then [n] else (n % 128 + 128) :: encF f (n / 128)
/-- The bytes of a number. -/
def enc (n : Int) : List Int := encF 10 n

theorem encF_byt : ∀ (f : Nat) (n : Int), 0 ≤ n → Byt (encF f n)
  | 0, _, _ => Byt.nil
  | f + 1, n, h => by
    unfold encF
    split
    · exact Byt.cons (by omega) Byt.nil
    · exact Byt.cons (by omega) (encF_byt f (n / 128) (by omega))
theorem enc_byt (n : Int) (h : 0 ≤ n) : Byt (enc n) := encF_byt 10 n h
theorem encF_len : ∀ (f : Nat) (n : Int), (encF f n).length ≤ f
  | 0, _ => by simp [encF]
  | f + 1, n => by
    unfold encF
    split
    · simp
    · have := encF_len f (n / 128)
      simp; omega
theorem enc_len (n : Int) : (enc n).length ≤ 10 := encF_len 10 n
theorem encF_succ : ∀ (f : Nat) (n : Int), 0 ≤ n → n < 128 ^ (f + 1) → encF (f + 2) n = encF (f + 1) n
  | 0, n, h0, h1 => by
    have h2 : n < 128 := by simpa using h1
    simp [encF, h2]
  | f + 1, n, h0, h1 => by
    have h2 : n / 128 < 128 ^ (f + 1) := by rw [Int.pow_succ] at h1; omega
    have ih := encF_succ f (n / 128) (by omega) h2
    rw [show encF (f + 1 + 2) n = if n < 128 then [n] else (n % 128 + 128) :: encF (f + 2) (n / 128) from rfl, show encF (f + 1 + 1) n = if n < 128 then [n] else (n % 128 + 128) :: encF (f + 1) (n / 128) from rfl, ih]
theorem enc_more (n : Int) (h : 128 ≤ n) (h1 : n < 18446744073709551616) : enc n = (n % 128 + 128) :: enc (n / 128) := by
  have e : encF 10 n = (n % 128 + 128) :: encF 9 (n / 128) := by
    rw [encF, if_neg (by omega)]
  unfold enc
  rw [e, encF_succ 8 (n / 128) (by omega) (by
    have : (128 : Int) ^ (8 + 1) = 9223372036854775808 := by decide
    omega)]
theorem enc_last (n : Int) (h : n < 128) : enc n = [n] := by
  unfold enc; rw [encF, if_pos h]
theorem enc_pos (n : Int) : 0 < (enc n).length := by
  unfold enc; rw [encF]; split <;> simp

theorem or128 (m : Int) (h0 : 0 ≤ m) : bits BinOp.or IntKind.u8 (m % 256) 128 = m % 128 + 128 := by
  rw [u8_or (m % 256) 128 (by omega) (by omega) (by decide) (by decide)]
  have key : ∀ a : Fin 256, a.val ||| 128 = a.val % 128 + 128 := by decide +kernel
  have := key ⟨(m % 256).toNat, by omega⟩
  simp only [] at this
  rw [show (128 : Int).toNat = 128 from rfl, this]
  omega

/-- A byte put behind an own row, from a cell of its own. -/
theorem Own.snoc {w1 : World} {base : Nat} {v' : Value} {ys : List Int} {x : Int} (h : w1.ownsRow base 5 1 v' (ys.length + 1) (bc ys ++ [.int .u8 x])) : Own w1 base v' (ys ++ [x]) := by
  unfold Own
  rw [bc_append]
  simpa [bc] using h

/-- An own row stays below nothing that was there ahead of it. -/
theorem Own.grown {w w1 : World} {base : Nat} {v : Value} {ys : List Int} (h : Own w base v ys) (hg : w.grownBy w1 v.ownBlock) (hb : base ≤ w.heap.size) : Below base w w1 :=
  (Below.refl _ _).grown hg hb fun k hk => (World.ownsRow.lt h k hk).1

/-- How far a number's bytes have been put. -/
def Rest (all ys : List Int) (m : Int) : Prop := ys ++ enc m = all
theorem Rest.step {all ys : List Int} {m : Int} (h : Rest all ys m) (h0 : 128 ≤ m) (h1 : m ≤ 18446744073709551615) : Rest all (ys ++ [m % 128 + 128]) (m / 128) := by
  unfold Rest at *
  rw [← h, enc_more m h0 (by omega)]
  simp
theorem Rest.last {all ys : List Int} {m : Int} (h : Rest all ys m) (h0 : m < 128) : ys ++ [m] = all := by
  unfold Rest at *
  rw [← h, enc_last m h0]
theorem Rest.len {all ys : List Int} {m : Int} (h : Rest all ys m) : ys.length + 1 ≤ all.length := by
  unfold Rest at *
  have := enc_pos m
  rw [← h]; simp; omega

end Go.Proofs.YthfcjfhaoabdeaaGreatDoor

/-
  Laws for 'append' of slices and strings onto an own row of bytes: no program in sight.
-/
set_option linter.unusedVariables false
set_option linter.unusedSimpArgs false
namespace Go.Proofs.YthfcjfhaoabdeaaGreatDoor
open Go.RowKit

/-- 'append(v, x...)', v an own row, x a slice of bytes. -/
theorem wpList_append_sl {P : Program} {w : World} {ops : Array Oper} {rest : List Oper} {o : Oper} {a : Act} {Q : Exit → Act → World → Prop} (hgd : o.guard = none) (s x : Operand) (t : TypeId)
    (ho : o.op = .call { callee := .builtin .append, args := #[s, x], argTypes := #[t, t] })
    (base : Nat) (i : TypeInfo) (ht : P.underlying t = some (.slice 5)) (hi : P.info? 5 = some i) (hz : i.zero = some (.int .u8 0)) (hsize : i.size = 1) (hby : i.bytes = 1)
    (v : Value) (xs : List Int) (hs : a.eval s = v) (hown : Own w base v xs) (ao : Option Addr) (len cap : Nat) (ys : List Int) (hx : a.eval x = .slice ao len cap) (hsl : Sl w ao len cap ys)
    (hlen : xs.length + len ≤ 140737488355328) (hbase : base ≤ w.heap.size)
    (h : ∀ v' w', Own w' base v' (xs ++ ys) → Below base w w' → wpList P ops Q rest (a.put o.dst v') w') : wpList P ops Q (o :: rest) a w := by
  obtain ⟨h1, h2, h3, h4, h5, h6⟩ := hsl
  cases ao with
  | none =>
    obtain ⟨rfl, rfl⟩ := h5 rfl
    obtain rfl : ys = [] := List.eq_nil_of_length_eq_zero h1
    exact wpList_append_own_none hgd s x t ho base 5 i 1 ht hi v _ _ hs hown hx (h v w (by simpa using hown) (Below.refl _ _))
  | some ad =>
    refine wpList_append_own w hgd s x t ho base 5 i (.int .u8 0) 1 1 ht hi hz hsize hby rfl (by decide) v _ _ hs hown ad len cap (bc ys) hx (by rw [bc_length]; omega) ?_ (bc_one ys) (by unfold maxLen; omega) (by omega) hbase ?_
    · intro j u hj
      obtain ⟨hj1, rfl⟩ := bc_get ys j u hj
      obtain ⟨b, off, e, _, hc⟩ := h6 (by omega)
      obtain rfl : ad = ⟨b, off, none⟩ := by simpa using e
      rw [addr_add]
      exact hc j (by omega)
    · intro v' w' ho' hg _
      refine h v' w' ?_ (Own.grown hown hg hbase)
      refine Own.of_bc (n := xs.length + len) ?_ (by simp; omega)
      rw [bc_append]
      exact ho'

/-- A string's bytes as numbers. -/
def sb (s : ByteArray) : List Int := s.data.toList.map fun u => (u.toNat : Int)
theorem sb_length (s : ByteArray) : (sb s).length = s.size := by
  rw [sb, List.length_map, Array.length_toList]
  rfl
theorem sb_byt (s : ByteArray) : Byt (sb s) := by
  intro x hx
  simp only [sb, List.mem_map] at hx
  obtain ⟨u, _, rfl⟩ := hx
  have := u.toNat_lt
  omega
theorem bc_sb (s : ByteArray) : bc (sb s) = Lib.strCells s := by simp [bc, sb, Lib.strCells]
/-- 'append(v, s...)', v an own row, s a string. -/
theorem wpList_append_str {P : Program} {w : World} {ops : Array Oper} {rest : List Oper} {o : Oper} {a : Act} {Q : Exit → Act → World → Prop} (hgd : o.guard = none) (sl x : Operand) (t : TypeId)
    (ho : o.op = .call { callee := .builtin .append, args := #[sl, x], argTypes := #[t, 9] })
    (base : Nat) (i : TypeInfo) (ht : P.underlying t = some (.slice 5)) (hu : P.underlying 9 = some .string) (hi : P.info? 5 = some i) (hz : i.zero = some (.int .u8 0)) (hsize : i.size = 1) (hby : i.bytes = 1)
    (v : Value) (xs : List Int) (hs : a.eval sl = v) (hown : Own w base v xs) (s : ByteArray) (hx : a.eval x = .string s)
    (hlen : xs.length + s.size ≤ 140737488355328) (hbase : base ≤ w.heap.size)
    (h : ∀ v' w', Own w' base v' (xs ++ sb s) → Below base w w' → wpList P ops Q rest (a.put o.dst v') w') : wpList P ops Q (o :: rest) a w := by
  refine Lib.wpList_append_own_string w hgd sl x t 9 ho base 5 i ht hu hi hz hsize hby v _ _ hs hown s hx (by unfold maxLen; omega) hlen hbase ?_
  intro v' w' ho' hg _
  refine h v' w' ?_ (Own.grown hown hg hbase)
  refine Own.of_bc (n := xs.length + s.size) ?_ (by rw [List.length_append, sb_length])
  rw [bc_append, bc_sb]
  exact ho'

end Go.Proofs.YthfcjfhaoabdeaaGreatDoor

/-
  The number that begins a list of bytes: plain mathematics.
-/
set_option linter.unusedVariables false
set_option linter.unusedSimpArgs false
namespace Go.Proofs.YthfcjfhaoabdeaaGreatDoor
open Go.RowKit

/-- The number that begins a list of bytes: it, and how many bytes it has. 'i' bytes have gone ahead and said 'acc'. -/
def dec : Nat → Int → List Int → Option (Int × Nat)
  | _, _, [] => none
  | i, acc, x :: r =>
    if 10 ≤ i then none
    else if i = 9 ∧ 1 < x then none
    else if 128 ≤ x then dec (i + 1) (acc + x % 128 * 128 ^ i) r
    else if x = 0 ∧ 0 < i then none
    else some (acc + x % 128 * 128 ^ i, i + 1)

/-- What Take tells of bytes and a place. -/
def tk (xs : List Int) (at_ : Int) : Option (Int × Int) :=
  if at_ < 0 ∨ (xs.length : Int) ≤ at_ then none else (dec 0 0 (xs.drop at_.toNat)).map fun p => (p.1, at_ + p.2)

/-- As the three results. -/
def tkVal : Option (Int × Int) → Value
  | none => .tuple #[.int .u64 0, .int .i64 0, .bool false]
  | some p => .tuple #[.int .u64 p.1, .int .i64 p.2, .bool true]

/-- How far the bytes have been read. -/
def DcK (rest : List Int) (k : Nat) (acc : Int) : Prop := dec 0 0 rest = dec k acc (rest.drop k) ∧ 0 ≤ acc ∧ acc < 128 ^ k

theorem DcK.start (rest : List Int) : DcK rest 0 0 := ⟨rfl, by decide, by decide⟩

theorem drop_getD {rest : List Int} {k : Nat} (h : k < rest.length) : rest.drop k = rest.getD k 0 :: rest.drop (k + 1) := by
  rw [List.drop_eq_getElem_cons h]
  simp [List.getD, List.getElem?_eq_getElem h]

section
variable {rest : List Int} {k : Nat} {acc x : Int}

theorem DcK.more (h : DcK rest k acc) (hk : k < rest.length) (hx : x = rest.getD k 0) (h9 : k < 9) (h128 : 128 ≤ x) (hb : x ≤ 255) : DcK rest (k + 1) (acc + x % 128 * 128 ^ k) := by
  obtain ⟨h1, h2, h3⟩ := h
  refine ⟨?_, ?_, ?_⟩
  · rw [h1, drop_getD hk, ← hx]
    rw [dec, if_neg (by omega), if_neg (by omega), if_pos h128]
  · have : (0 : Int) < 128 ^ k := Int.pow_pos (by decide)
    have h5 : 0 ≤ x % 128 * 128 ^ k := Int.mul_nonneg (by omega) (by omega)
    omega
  · have hp : (0 : Int) < 128 ^ k := Int.pow_pos (by decide)
    have h5 : x % 128 * 128 ^ k ≤ 127 * 128 ^ k := Int.mul_le_mul_of_nonneg_right (by omega) (by omega)
    have h6 : (128 : Int) ^ (k + 1) = 128 ^ k * 128 := Int.pow_succ ..
    omega
theorem DcK.big (h : DcK rest k acc) (hk : k < rest.length) (hx : x = rest.getD k 0) (h9 : k = 9) (h1x : 1 < x) : dec 0 0 rest = none := by
  rw [h.1, drop_getD hk, ← hx, dec, if_neg (by omega), if_pos ⟨h9, h1x⟩]
theorem DcK.zero (h : DcK rest k acc) (hk : k < rest.length) (hx : x = rest.getD k 0) (h9 : k ≤ 9) (h0 : x = 0) (hk0 : 0 < k) : dec 0 0 rest = none := by
  rw [h.1, drop_getD hk, ← hx, dec, if_neg (by omega), if_neg (by omega), if_neg (by omega), if_pos ⟨h0, hk0⟩]
theorem DcK.last (h : DcK rest k acc) (hk : k < rest.length) (hx : x = rest.getD k 0) (h9 : k < 9 ∨ x ≤ 1) (h10 : k ≤ 9) (h128 : x < 128) (h0 : ¬ (x = 0 ∧ 0 < k)) : dec 0 0 rest = some (acc + x % 128 * 128 ^ k, k + 1) := by
  rw [h.1, drop_getD hk, ← hx, dec, if_neg (by omega), if_neg (by omega), if_neg (by omega), if_neg h0]
theorem DcK.short (h : DcK rest k acc) (hk : rest.length ≤ k) : dec 0 0 rest = none := by
  rw [h.1, List.drop_eq_nil_of_le hk, dec]
theorem DcK.ten (h : DcK rest k acc) (hk : 10 ≤ k) : dec 0 0 rest = none := by
  rw [h.1]
  cases rest.drop k with
  | nil => rfl
  | cons y r => rw [dec, if_pos hk]
end

theorem pow128_le {k n : Nat} (h : k ≤ n) : (128 : Int) ^ k ≤ 128 ^ n := by
  have := Nat.pow_le_pow_right (n := 128) (by decide) h
  exact_mod_cast this

/-- What is read is written as just the bytes that were read. -/
theorem dec_spec : ∀ (r : List Int) (i : Nat) (acc n : Int) (k : Nat), Byt r → i ≤ 9 → dec i acc r = some (n, k) →
    ∃ m : Int, n = acc + m * 128 ^ i ∧ i < k ∧ k - i ≤ r.length ∧ encF (9 - i + 1) m = r.take (k - i) ∧ 0 ≤ m ∧ m < 2 * 128 ^ (9 - i) ∧ (0 < i → 1 ≤ m)
  | [], i, acc, n, k, hb, hi, h => by simp [dec] at h
  | x :: r, i, acc, n, k, hb, hi, h => by
    have hx := hb x (List.mem_cons_self ..)
    have hbr : Byt r := fun y hy => hb y (List.mem_cons_of_mem _ hy)
    rw [dec, if_neg (by omega)] at h
    split at h
    · cases h
    rename_i h9
    split at h
    · rename_i h128
      obtain ⟨m', e1, e2, e3, e4, e5, e6, e7⟩ := dec_spec r (i + 1) _ n k hbr (by omega) h
      have hm' := e7 (by omega)
      have ei : 9 - i = 9 - (i + 1) + 1 := by omega
      refine ⟨x % 128 + 128 * m', ?_, by omega, by simp; omega, ?_, by omega, ?_, fun _ => by omega⟩
      · rw [e1, Int.pow_succ, Int.add_mul, Int.add_assoc, show m' * (128 ^ i * 128) = 128 * m' * 128 ^ i from by rw [Int.mul_comm m', Int.mul_assoc, Int.mul_comm (128 ^ i) (128 * m')]]
      · rw [ei, encF, if_neg (by omega), show (x % 128 + 128 * m') / 128 = m' from by omega, e4, show k - i = k - (i + 1) + 1 from by omega, List.take_succ_cons, show (x % 128 + 128 * m') % 128 + 128 = x from by omega]
      · rw [ei, Int.pow_succ]
        omega
    · rename_i h128
      split at h
      · cases h
      rename_i hz
      simp only [Option.some.injEq, Prod.mk.injEq] at h
      obtain ⟨rfl, rfl⟩ := h
      refine ⟨x, by rw [show x % 128 = x from by omega], by omega, by simp, ?_, by omega, ?_, fun _ => by omega⟩
      · rw [encF, if_pos (by omega), show i + 1 - i = 1 from by omega]
        rfl
      · by_cases hi9 : i = 9
        · subst hi9
          simp
          omega
        · have : (128 : Int) ^ 1 ≤ 128 ^ (9 - i) := pow128_le (by omega)
          simp at this
          omega

/-- What Take tells, if it tells a number. -/
theorem tk_spec {xs : List Int} {at_ n next : Int} (hb : Byt xs) (h : tk xs at_ = some (n, next)) :
    ∃ a b : Nat, at_ = a ∧ next = b ∧ a < b ∧ b ≤ xs.length ∧ 0 ≤ n ∧ n ≤ 18446744073709551615 ∧ enc n = (xs.take b).drop a := by
  unfold tk at h
  split at h
  · cases h
  rename_i hat
  obtain ⟨a, rfl⟩ : ∃ a : Nat, at_ = (a : Int) := ⟨at_.toNat, by omega⟩
  simp only [Int.toNat_natCast, Option.map_eq_some_iff, Prod.mk.injEq, Prod.exists] at h
  obtain ⟨n', k, hd, rfl, rfl⟩ := h
  obtain ⟨m, e1, e2, e3, e4, e5, e6, _⟩ := dec_spec _ 0 0 n' k (hb.drop a) (by omega) hd
  have e9 : (2 : Int) * 128 ^ (9 - 0) = 18446744073709551616 := by decide
  simp only [Int.pow_zero, Int.mul_one, Int.zero_add] at e1
  subst e1
  rw [List.length_drop] at e3
  refine ⟨a, a + k, rfl, by omega, by omega, by omega, e5, by omega, ?_⟩
  have e7 : encF 10 n' = List.take k (List.drop a xs) := e4
  unfold enc
  rw [e7, List.drop_take]
  congr 1
  omega

theorem and127 (x : Int) (h0 : 0 ≤ x) (h1 : x ≤ 255) : bits BinOp.and IntKind.u8 x 127 = x % 128 := by
  rw [u8_and x 127 h0 (by omega) (by decide) (by decide)]
  have key : ∀ a : Fin 256, a.val &&& 127 = a.val % 128 := by decide +kernel
  have := key ⟨x.toNat, by omega⟩
  simp only [] at this
  rw [show (127 : Int).toNat = 127 from rfl, this]
  omega

/-- 'n | x&127 << (7 * i)', where nothing of n lies so high. -/
theorem or_shl (acc x : Int) (k : Nat) (h0 : 0 ≤ acc) (h1 : acc < 128 ^ k) (hx0 : 0 ≤ x) (hx1 : x ≤ 255) (h9 : k < 9 ∨ (k = 9 ∧ x ≤ 1)) :
    bits BinOp.or IntKind.u64 acc (IntKind.u64.wrap (IntKind.u64.wrap (bits BinOp.and IntKind.u8 x 127) * 2 ^ (7 * k))) = acc + x % 128 * 128 ^ k := by
  rw [and127 x hx0 hx1]
  have e7 : (2 : Int) ^ (7 * k) = 128 ^ k := by rw [Int.pow_mul]; rfl
  have eN : ((2 ^ (7 * k) : Nat) : Int) = 128 ^ k := by rw [← e7]; simp
  rw [e7, IntWalk.u64_in (x % 128) (by omega)]
  have hP : (0 : Int) < 128 ^ k := Int.pow_pos (by decide)
  have hle : x % 128 * 128 ^ k ≤ 9223372036854775808 := by
    rcases h9 with h9 | ⟨rfl, h9⟩
    · have h2 : (128 : Int) ^ k ≤ 128 ^ 8 := pow128_le (by omega)
      have h3 : x % 128 * 128 ^ k ≤ 128 * 128 ^ 8 := Int.mul_le_mul (by omega) h2 (by omega) (by decide)
      have h4 : (128 : Int) * 128 ^ 8 = 9223372036854775808 := by decide
      omega
    · have h4 : (128 : Int) ^ 9 = 9223372036854775808 := by decide
      rw [h4]
      omega
  have hnn : 0 ≤ x % 128 * 128 ^ k := Int.mul_nonneg (by omega) (by omega)
  rw [IntWalk.u64_in (x % 128 * 128 ^ k) (by omega)]
  have hacc : acc ≤ 9223372036854775808 := by
    have h2 : (128 : Int) ^ k ≤ 128 ^ 9 := pow128_le (by omega)
    have h4 : (128 : Int) ^ 9 = 9223372036854775808 := by decide
    omega
  rw [u64_or acc _ h0 (by omega) hnn (by omega)]
  have e3 : (x % 128 * 128 ^ k).toNat = 2 ^ (7 * k) * (x % 128).toNat := by
    have : ((2 ^ (7 * k) * (x % 128).toNat : Nat) : Int) = x % 128 * 128 ^ k := by
      rw [Int.natCast_mul, eN, Int.toNat_of_nonneg (by omega), Int.mul_comm]
    omega
  have e4 : acc.toNat ||| (x % 128 * 128 ^ k).toNat = (x % 128 * 128 ^ k).toNat + acc.toNat := by
    rw [e3, Nat.or_comm, Nat.two_pow_add_eq_or_of_lt (by
      have : (acc.toNat : Int) < ((2 ^ (7 * k) : Nat) : Int) := by rw [eN]; omega
      omega)]
  rw [e4]
  omega

end Go.Proofs.YthfcjfhaoabdeaaGreatDoor

/-
  CRC-32 of a list of bytes: plain mathematics.
-/
set_option linter.unusedVariables false
set_option linter.unusedSimpArgs false
namespace Go.Proofs.YthfcjfhaoabdeaaGreatDoor
open Go.RowKit

/-- One bit's step. -/
def cs (c : Nat) : Nat := if c % 2 = 1 then (c / 2) ^^^ 3988292384 else c / 2
/-- So many bits' steps. -/
def csK : Nat → Nat → Nat
  | 0, c => c
  | k + 1, c => cs (csK k c)
/-- One byte's step. -/
def cb (c : Nat) (x : Int) : Nat := csK 8 (c ^^^ x.toNat)
/-- The steps of bytes. -/
def cl (c : Nat) (xs : List Int) : Nat := xs.foldl cb c
/-- The sum. -/
def crc (xs : List Int) : Nat := cl 4294967295 xs ^^^ 4294967295

theorem cs_lt {c : Nat} (h : c < 4294967296) : cs c < 4294967296 := by
  unfold cs
  split
  · have : (c / 2) ^^^ 3988292384 < 2 ^ 32 := Nat.xor_lt_two_pow (by omega) (by decide)
    omega
  · omega
theorem csK_lt {c : Nat} (h : c < 4294967296) : ∀ k, csK k c < 4294967296
  | 0 => h
  | k + 1 => cs_lt (csK_lt h k)
theorem xor_lt {a b : Nat} (h : a < 4294967296) (k : b < 4294967296) : a ^^^ b < 4294967296 := by
  have : a ^^^ b < 2 ^ 32 := Nat.xor_lt_two_pow (by omega) (by omega)
  omega
theorem cb_lt {c : Nat} {x : Int} (h : c < 4294967296) (hx : x ≤ 255) : cb c x < 4294967296 := csK_lt (xor_lt h (by omega)) 8
theorem cl_lt : ∀ {xs : List Int} {c : Nat}, c < 4294967296 → Byt xs → cl c xs < 4294967296
  | [], c, h, _ => h
  | x :: xs, c, h, hb => cl_lt (xs := xs) (cb_lt h (hb x (List.mem_cons_self ..)).2) fun y hy => hb y (List.mem_cons_of_mem _ hy)
theorem cl_append (c : Nat) (xs ys : List Int) : cl c (xs ++ ys) = cl (cl c xs) ys := by simp [cl, List.foldl_append]
theorem cl_snoc (c : Nat) (xs : List Int) (x : Int) : cl c (xs ++ [x]) = cb (cl c xs) x := by simp [cl]
theorem cl_take (c : Nat) (xs : List Int) (k : Nat) (h : k < xs.length) : cl c (xs.take (k + 1)) = cb (cl c (xs.take k)) (xs.getD k 0) := by
  rw [List.take_succ_eq_append_getElem h, cl_snoc]
  simp [List.getD, List.getElem?_eq_getElem h]

/-! ### The machine's operations -/
theorem xor32 (c : Nat) (x : Int) (h : c < 4294967296) (hx0 : 0 ≤ x) (hx1 : x ≤ 4294967295) : bits BinOp.xor IntKind.u32 (c : Int) x = ((c ^^^ x.toNat : Nat) : Int) := by
  rw [u32_xor (c : Int) x (by omega) (by omega) hx0 (by omega), Int.toNat_natCast]
theorem and32 (c : Nat) (h : c < 4294967296) : bits BinOp.and IntKind.u32 (c : Int) 1 = (c : Int) % 2 := by
  rw [u32_and (c : Int) 1 (by omega) (by omega) (by decide) (by decide), Int.toNat_natCast, show (1 : Int).toNat = 1 from rfl, Nat.and_one_is_mod]
  omega
theorem cs_odd (c : Nat) (h : c < 4294967296) (ho : c % 2 = 1) : bits BinOp.xor IntKind.u32 ((c : Int) / 2) 3988292384 = ((cs c : Nat) : Int) := by
  have e : (c : Int) / 2 = ((c / 2 : Nat) : Int) := by omega
  rw [e, xor32 (c / 2) 3988292384 (by omega) (by decide) (by decide)]
  unfold cs
  rw [if_pos ho]
  rfl
theorem cs_even (c : Nat) (ho : ¬ c % 2 = 1) : (c : Int) / 2 = ((cs c : Nat) : Int) := by
  unfold cs
  rw [if_neg ho]
  omega

end Go.Proofs.YthfcjfhaoabdeaaGreatDoor

/-
  Frames as lists of bytes: plain mathematics.
-/
set_option linter.unusedVariables false
set_option linter.unusedSimpArgs false
namespace Go.Proofs.YthfcjfhaoabdeaaGreatDoor
open Go.RowKit

/-- So many bytes of a number, the lowest first. -/
def lo : Nat → Nat → List Int
  | 0, _ => []
  | k + 1, n => ((n % 256 : Nat) : Int) :: lo k (n / 256)
/-- The number of such bytes. -/
def va : List Int → Nat
  | [] => 0
  | x :: xs => x.toNat + 256 * va xs

theorem lo_len : ∀ (k n : Nat), (lo k n).length = k
  | 0, _ => rfl
  | k + 1, n => by simp [lo, lo_len k]
theorem lo_byt : ∀ (k n : Nat), Byt (lo k n)
  | 0, _ => Byt.nil
  | k + 1, n => Byt.cons (by omega) (lo_byt k _)
theorem va_lo : ∀ (k n : Nat), n < 256 ^ k → va (lo k n) = n
  | 0, n, h => by simp at h; subst h; rfl
  | k + 1, n, h => by
    have h2 : n / 256 < 256 ^ k := by rw [Nat.pow_succ] at h; omega
    simp only [lo, va, va_lo k _ h2, Int.toNat_natCast]
    omega
theorem lo_va : ∀ (xs : List Int), Byt xs → lo xs.length (va xs) = xs
  | [], _ => rfl
  | x :: xs, h => by
    have hx := h x (List.mem_cons_self ..)
    have hs : Byt xs := fun y hy => h y (List.mem_cons_of_mem _ hy)
    have e1 : (x.toNat + 256 * va xs) % 256 = x.toNat := by omega
    have e2 : (x.toNat + 256 * va xs) / 256 = va xs := by omega
    simp only [List.length_cons, lo, va, e1, e2, lo_va xs hs]
    congr 1
    omega
theorem va_lt : ∀ (xs : List Int), Byt xs → va xs < 256 ^ xs.length
  | [], _ => by simp [va]
  | x :: xs, h => by
    have hx := h x (List.mem_cons_self ..)
    have hs : Byt xs := fun y hy => h y (List.mem_cons_of_mem _ hy)
    have := va_lt xs hs
    simp only [List.length_cons, va, Nat.pow_succ]
    omega
theorem va_snoc : ∀ (xs : List Int) (x : Int), va (xs ++ [x]) = va xs + x.toNat * 256 ^ xs.length
  | [], x => by simp [va]
  | y :: ys, x => by
    simp only [List.cons_append, va, va_snoc ys x, List.length_cons, Nat.pow_succ]
    rw [Nat.mul_add, Nat.mul_comm (256 ^ ys.length) 256, ← Nat.mul_assoc, ← Nat.mul_assoc, Nat.mul_comm 256 x.toNat]
    omega
theorem crc_lt {xs : List Int} (h : Byt xs) : crc xs < 4294967296 := xor_lt (cl_lt (by decide) h) (by decide)

/-! ### Bytes with their sum behind them -/
/-- Bytes and their sum. -/
def sm (s : List Int) : List Int := s ++ lo 4 (crc s)
theorem sm_len (s : List Int) : (sm s).length = s.length + 4 := by simp [sm, lo_len]
theorem sm_byt {s : List Int} (h : Byt s) : Byt (sm s) := h.append (lo_byt _ _)
/-- Is a list bytes with their sum behind them? -/
def Ends (s : List Int) : Prop := 4 ≤ s.length ∧ va (s.drop (s.length - 4)) = crc (s.take (s.length - 4))
theorem ends_iff {s : List Int} (h : Byt s) : Ends s ↔ ∃ t, Byt t ∧ s = sm t := by
  constructor
  · rintro ⟨h1, h2⟩
    refine ⟨s.take (s.length - 4), h.take _, ?_⟩
    have e : lo 4 (crc (s.take (s.length - 4))) = s.drop (s.length - 4) := by
      rw [← h2]
      have := lo_va (s.drop (s.length - 4)) (h.drop _)
      rwa [List.length_drop, show s.length - (s.length - 4) = 4 from by omega] at this
    unfold sm
    rw [e, List.take_append_drop]
  · rintro ⟨t, ht, rfl⟩
    have hl := sm_len t
    refine ⟨by omega, ?_⟩
    rw [hl, show t.length + 4 - 4 = t.length from by omega]
    unfold sm
    rw [List.drop_left, List.take_left, va_lo 4 _ (crc_lt ht)]

/-- The twelve bytes of a head, and the sixteen. -/
def hd (seq n : Nat) : List Int := lo 8 seq ++ lo 4 n
theorem hd_len (seq n : Nat) : (hd seq n).length = 12 := by simp [hd, lo_len]
theorem hd_byt (seq n : Nat) : Byt (hd seq n) := (lo_byt _ _).append (lo_byt _ _)
/-- A frame's bytes, not yet in blocks. -/
def st (seq : Nat) (body : List Int) : List Int := sm (sm (hd seq body.length) ++ body)
theorem st_len (seq : Nat) (body : List Int) : (st seq body).length = body.length + 20 := by simp [st, sm_len, hd_len]; omega
theorem st_byt (seq : Nat) {body : List Int} (h : Byt body) : Byt (st seq body) := sm_byt ((sm_byt (hd_byt _ _)).append h)

/-- How many blocks. -/
def nb (n : Nat) : Nat := (n + 20 + 30) / 31
/-- Bytes cut into so many blocks. -/
def lay : Nat → Int → List Int → List Int
  | 0, _, _ => []
  | k + 1, kd, s => (kd :: (s.take 31 ++ List.replicate (31 - (s.take 31).length) 0)) ++ lay k 178 (s.drop 31)
theorem lay_len : ∀ (k : Nat) (kd : Int) (s : List Int), (lay k kd s).length = 32 * k
  | 0, _, _ => rfl
  | k + 1, kd, s => by
    simp only [lay, List.length_append, List.length_cons, lay_len k, List.length_replicate, List.length_take]
    omega
theorem lay_byt : ∀ (k : Nat) (kd : Int) (s : List Int), 0 ≤ kd ∧ kd ≤ 255 → Byt s → Byt (lay k kd s)
  | 0, _, _, _, _ => Byt.nil
  | k + 1, kd, s, h, hs => by
    refine Byt.append (Byt.cons h ((hs.take _).append ?_)) (lay_byt k 178 _ (by decide) (hs.drop _))
    intro y hy
    have := List.eq_of_mem_replicate hy
    omega
/-- What lies in so many blocks. -/
def pcs : Nat → List Int → List Int
  | 0, _ => []
  | k + 1, x => (x.drop 1).take 31 ++ pcs k (x.drop 32)
/-- Are the blocks' kinds right? -/
def kds : Nat → Int → List Int → Bool
  | 0, _, _ => true
  | k + 1, kd, x => x.getD 0 0 == kd && kds k 178 (x.drop 32)
theorem pcs_len : ∀ (k : Nat) (x : List Int), 32 * k ≤ x.length → (pcs k x).length = 31 * k
  | 0, _, _ => rfl
  | k + 1, x, h => by
    have := pcs_len k (x.drop 32) (by simp; omega)
    simp only [pcs, List.length_append, List.length_take, List.length_drop, this]
    omega
theorem pcs_byt : ∀ (k : Nat) (x : List Int), Byt x → Byt (pcs k x)
  | 0, _, _ => Byt.nil
  | k + 1, x, h => ((h.drop _).take _).append (pcs_byt k _ (h.drop _))
theorem pcs_snoc : ∀ (k : Nat) (x : List Int), pcs (k + 1) x = pcs k x ++ ((x.drop (32 * k)).drop 1).take 31
  | 0, x => by simp [pcs]
  | k + 1, x => by
    rw [pcs, pcs_snoc k (x.drop 32), pcs, List.append_assoc]
    simp only [List.drop_drop]
    rw [show 32 + 32 * k + 1 = 32 * (k + 1) + 1 from by omega]
theorem kds_snoc : ∀ (k : Nat) (kd : Int) (x : List Int), kds (k + 1) kd x = (kds k kd x && (x.drop (32 * k)).getD 0 0 == (if k = 0 then kd else 178))
  | 0, kd, x => by simp [kds]
  | k + 1, kd, x => by
    rw [kds, kds_snoc k 178 (x.drop 32), kds, Bool.and_assoc]
    congr 2
    rw [List.drop_drop, show 32 + 32 * k = 32 * (k + 1) from by omega]
    split <;> simp
theorem kds_at : ∀ (k : Nat) (kd : Int) (x : List Int), kds k kd x = true → ∀ j, j < k → x.getD (32 * j) 0 = if j = 0 then kd else 178
  | 0, _, _, _, j, hj => by omega
  | k + 1, kd, x, h, j, hj => by
    simp only [kds, Bool.and_eq_true, beq_iff_eq] at h
    cases j with
    | zero => simpa using h.1
    | succ j =>
      have := kds_at k 178 _ h.2 j (by omega)
      rw [if_neg (by omega)]
      simp only [List.getD, List.getElem?_drop] at this ⊢
      rw [show 32 * (j + 1) = 32 + 32 * j from by omega, this]
      simp

/-- Blocks and what lies in them are one to one. -/
theorem lay_iff : ∀ (k : Nat) (kd : Int) (s x : List Int), x.length = 32 * k → s.length ≤ 31 * k →
    (lay k kd s = x ↔ kds k kd x = true ∧ pcs k x = s ++ List.replicate (31 * k - s.length) 0)
  | 0, kd, s, x, h, hs => by
    obtain rfl : x = [] := List.eq_nil_of_length_eq_zero (by omega)
    obtain rfl : s = [] := List.eq_nil_of_length_eq_zero (by omega)
    simp [lay, kds, pcs]
  | k + 1, kd, s, x, h, hs => by
    have hx : x = x.getD 0 0 :: (x.drop 1).take 31 ++ x.drop 32 := by
      match x, h with
      | y :: ys, h =>
        simp only [List.getD_cons_zero, List.drop_succ_cons, List.drop_zero, List.cons_append]
        rw [show ys.drop 31 = ys.drop 31 from rfl, List.take_append_drop]
    have hl31 : ((x.drop 1).take 31).length = 31 := by simp; omega
    have ih := lay_iff k 178 (s.drop 31) (x.drop 32) (by simp; omega) (by simp; omega)
    have hpl := pcs_len k (x.drop 32) (by simp; omega)
    constructor
    · intro e
      rw [hx] at e
      simp only [lay, List.cons_append, List.cons.injEq] at e
      obtain ⟨e1, e2⟩ := e
      have hla : (s.take 31 ++ List.replicate (31 - (s.take 31).length) 0).length = ((x.drop 1).take 31).length := by
        rw [hl31]
        simp
        omega
      obtain ⟨e3, e4⟩ := List.append_inj e2 hla
      obtain ⟨i1, i2⟩ := ih.1 e4
      refine ⟨by simp only [kds, Bool.and_eq_true, beq_iff_eq]; exact ⟨e1.symm, i1⟩, ?_⟩
      rw [pcs, ← e3, i2]
      by_cases hs31 : s.length ≤ 31
      · rw [List.take_of_length_le hs31, List.drop_eq_nil_of_le hs31]
        simp only [List.nil_append, List.length_nil, List.append_assoc, Nat.sub_zero, List.replicate_append_replicate]
        congr 2
        omega
      · have ht : (s.take 31).length = 31 := by simp; omega
        rw [ht]
        simp only [Nat.sub_self, List.replicate_zero, List.append_nil, List.length_drop]
        rw [← List.append_assoc, List.take_append_drop]
        congr 2
        omega
    · rintro ⟨e1, e2⟩
      simp only [kds, Bool.and_eq_true, beq_iff_eq] at e1
      have key : (x.drop 1).take 31 = s.take 31 ++ List.replicate (31 - (s.take 31).length) 0 ∧ pcs k (x.drop 32) = s.drop 31 ++ List.replicate (31 * k - (s.drop 31).length) 0 := by
        refine List.append_inj ?_ (by rw [hl31]; simp; omega)
        rw [show (x.drop 1).take 31 ++ pcs k (x.drop 32) = pcs (k + 1) x from rfl, e2]
        by_cases hs31 : s.length ≤ 31
        · rw [List.take_of_length_le hs31, List.drop_eq_nil_of_le hs31]
          simp only [List.nil_append, List.length_nil, List.append_assoc, Nat.sub_zero, List.replicate_append_replicate]
          congr 2
          omega
        · have ht : (s.take 31).length = 31 := by simp; omega
          rw [ht]
          simp only [Nat.sub_self, List.replicate_zero, List.append_nil, List.length_drop]
          rw [← List.append_assoc, List.take_append_drop]
          congr 2
          omega
      have e4 := ih.2 ⟨e1.2, key.2⟩
      conv => rhs; rw [hx]
      rw [lay, e4, ← key.1, e1.1]

/-! ### Which frame stands at the head of bytes -/
/-- How long a body the head tells of. -/
def nOf (x : List Int) : Nat := va ((x.drop 9).take 4)
def sOf (x : List Int) : List Int := pcs (nb (nOf x)) x
def seqOf (x : List Int) : Nat := va ((sOf x).take 8)
def bodyOf (x : List Int) : List Int := ((sOf x).drop 16).take (nOf x)
/-- A frame. -/
def fra (seq : Nat) (body : List Int) : List Int := lay (nb body.length) 161 (st seq body)
/-- The frame with which bytes begin. -/
def tak (x : List Int) : Option (Nat × List Int) :=
  if nOf x ≤ 65536 ∧ 32 * nb (nOf x) ≤ x.length ∧ fra (seqOf x) (bodyOf x) = x.take (32 * nb (nOf x)) then some (seqOf x, bodyOf x) else none

theorem nb_ge (n : Nat) : n + 20 ≤ 31 * nb n := by unfold nb; omega
theorem nb_lt (n : Nat) : 31 * nb n < n + 51 := by unfold nb; omega
theorem nb_pos (n : Nat) : 1 ≤ nb n := by unfold nb; omega
theorem fra_len (seq : Nat) (body : List Int) : (fra seq body).length = 32 * nb body.length := lay_len _ _ _
theorem fra_byt (seq : Nat) {body : List Int} (h : Byt body) : Byt (fra seq body) := lay_byt _ _ _ (by decide) (st_byt _ h)

theorem pcs_head (k : Nat) (x : List Int) (hk : 1 ≤ k) (a b : Nat) (h : a + b ≤ 31) (hx : 32 ≤ x.length) : ((pcs k x).drop a).take b = (x.drop (a + 1)).take b := by
  obtain ⟨k, rfl⟩ : ∃ j, k = j + 1 := ⟨k - 1, by omega⟩
  rw [pcs, List.drop_append_of_le_length (by simp; omega), List.take_append_of_le_length (by simp; omega), List.drop_take, List.drop_drop, List.take_take, Nat.min_eq_left (by omega), Nat.add_comm 1 a]
theorem pcs_take : ∀ (k : Nat) (x : List Int) (m : Nat), 32 * k ≤ m → pcs k (x.take m) = pcs k x
  | 0, _, _, _ => rfl
  | k + 1, x, m, h => by
    rw [pcs, pcs, List.drop_take, List.drop_take, List.take_take, Nat.min_eq_left (by omega), pcs_take k _ _ (by omega)]
theorem kds_take : ∀ (k : Nat) (kd : Int) (x : List Int) (m : Nat), 32 * k ≤ m → kds k kd (x.take m) = kds k kd x
  | 0, _, _, _, _ => rfl
  | k + 1, kd, x, m, h => by
    rw [kds, kds, List.drop_take, kds_take k _ _ _ (by omega)]
    congr 2
    simp only [List.getD]
    rw [List.getElem?_take_of_lt (by omega)]

/-- What makes bytes begin with a frame, test by test. -/
def FGood (x : List Int) : Prop :=
  nOf x ≤ 65536 ∧ 32 * nb (nOf x) ≤ x.length ∧ kds (nb (nOf x)) 161 x = true ∧ Ends ((sOf x).take 16) ∧ (sOf x).drop (nOf x + 20) = List.replicate (31 * nb (nOf x) - (nOf x + 20)) 0 ∧ Ends ((sOf x).take (nOf x + 20))

theorem bodyOf_len {x : List Int} (h : 32 * nb (nOf x) ≤ x.length) : (bodyOf x).length = nOf x := by
  have h1 := pcs_len _ _ h
  have h2 := nb_ge (nOf x)
  unfold bodyOf sOf
  simp only [List.length_take, List.length_drop, h1]
  omega
theorem seqOf_lt {x : List Int} (h : Byt x) : seqOf x < 18446744073709551616 := by
  have h1 := va_lt ((sOf x).take 8) ((pcs_byt _ _ h).take 8)
  have h2 : 256 ^ ((sOf x).take 8).length ≤ 256 ^ 8 := Nat.pow_le_pow_right (by decide) (by simp; omega)
  have h3 : (256 : Nat) ^ 8 = 18446744073709551616 := by decide
  unfold seqOf
  omega
theorem bodyOf_byt {x : List Int} (h : Byt x) : Byt (bodyOf x) := ((pcs_byt _ _ h).drop _).take _

theorem good_tak {x : List Int} (hb : Byt x) (h : FGood x) : fra (seqOf x) (bodyOf x) = x.take (32 * nb (nOf x)) := by
  obtain ⟨h1, h2, h3, h4, h5, h6⟩ := h
  have hl := bodyOf_len h2
  have hp := pcs_len _ _ h2
  have hg := nb_ge (nOf x)
  have hsb : Byt (sOf x) := pcs_byt _ _ hb
  have hsl : (sOf x).length = 31 * nb (nOf x) := hp
  unfold fra
  rw [hl]
  refine (lay_iff _ _ _ _ (by simp; omega) (by rw [st_len, hl]; omega)).2 ⟨by rw [kds_take _ _ _ _ (Nat.le_refl _)]; exact h3, ?_⟩
  rw [pcs_take _ _ _ (Nat.le_refl _), st_len, hl]
  show sOf x = _
  conv => lhs; rw [← List.take_append_drop (nOf x + 20) (sOf x), h5]
  congr 1
  obtain ⟨t, _, e1⟩ := (ends_iff (hsb.take _)).1 h6
  obtain ⟨u, _, e2⟩ := (ends_iff (hsb.take _)).1 h4
  have tl : t.length = nOf x + 16 := by
    have := congrArg List.length e1
    rw [sm_len, List.length_take] at this
    omega
  have ul : u.length = 12 := by
    have := congrArg List.length e2
    rw [sm_len, List.length_take] at this
    omega
  have et : t = (sOf x).take (nOf x + 16) := by
    have := congrArg (List.take (nOf x + 16)) e1
    rw [List.take_take, Nat.min_eq_left (by omega), sm, ← tl, List.take_left] at this
    rw [← tl]
    exact this.symm
  have eu : u = (sOf x).take 12 := by
    have := congrArg (List.take 12) e2
    rw [List.take_take, Nat.min_eq_left (by omega), sm, ← ul, List.take_left] at this
    rw [← ul]
    exact this.symm
  have eh : hd (seqOf x) (bodyOf x).length = u := by
    rw [hl, eu, hd]
    have e8 := lo_va ((sOf x).take 8) (hsb.take _)
    have e4 := lo_va (((sOf x).drop 8).take 4) ((hsb.drop _).take _)
    have l8 : ((sOf x).take 8).length = 8 := by simp; omega
    have l4 : (((sOf x).drop 8).take 4).length = 4 := by simp; omega
    rw [l8] at e8
    rw [l4] at e4
    have en : va (((sOf x).drop 8).take 4) = nOf x := by
      unfold sOf nOf
      rw [pcs_head _ _ (nb_pos _) 8 4 (by omega) (by have := nb_pos (nOf x); unfold nOf at *; omega)]
    rw [en] at e4
    unfold seqOf
    rw [e8, e4, ← List.take_add]
  unfold st
  rw [e1, eh]
  congr 1
  rw [← e2, et]
  unfold bodyOf
  rw [← List.take_add, Nat.add_comm]

theorem tak_good {x : List Int} (hb : Byt x) (h : FGood x) : tak x = some (seqOf x, bodyOf x) := by
  unfold tak
  rw [if_pos ⟨h.1, h.2.1, good_tak hb h⟩]

/-- A frame at the head of bytes is told. -/
theorem fra_good {x : List Int} {seq : Nat} {body : List Int} (hs : seq < 18446744073709551616) (hb : Byt body) (hl : body.length ≤ 65536) (hx : 32 * nb body.length ≤ x.length) (h : fra seq body = x.take (32 * nb body.length)) :
    FGood x ∧ seqOf x = seq ∧ bodyOf x = body ∧ nOf x = body.length := by
  have hg := nb_ge body.length
  have hp := nb_pos body.length
  obtain ⟨k1, k2⟩ := (lay_iff _ _ _ _ (by simp; omega) (by rw [st_len]; omega)).1 h
  rw [kds_take _ _ _ _ (Nat.le_refl _)] at k1
  rw [pcs_take _ _ _ (Nat.le_refl _)] at k2
  have hst : st seq body = lo 8 seq ++ (lo 4 body.length ++ (lo 4 (crc (hd seq body.length)) ++ (body ++ lo 4 (crc (sm (hd seq body.length) ++ body))))) := by
    simp [st, sm, hd, List.append_assoc]
  have hn : nOf x = body.length := by
    unfold nOf
    rw [← pcs_head (nb body.length) x hp 8 4 (by omega) (by omega), k2, hst, List.append_assoc, List.drop_left' (lo_len _ _), List.append_assoc, List.take_left' (lo_len _ _), va_lo 4 _ (by
      have : (256 : Nat) ^ 4 = 4294967296 := by decide
      omega)]
  have hso : sOf x = st seq body ++ List.replicate (31 * nb body.length - (st seq body).length) 0 := by unfold sOf; rw [hn]; exact k2
  have t20 : (sOf x).take (body.length + 20) = st seq body := by rw [hso, List.take_left' (st_len _ _)]
  have t16 : (sOf x).take 16 = sm (hd seq body.length) := by
    have hsl : (sm (hd seq body.length)).length = 16 := by rw [sm_len, hd_len]
    rw [hso, st, sm, List.append_assoc, List.append_assoc, List.append_assoc, List.take_left' hsl]
  refine ⟨⟨by omega, by rw [hn]; exact hx, by rw [hn]; exact k1, ?_, ?_, ?_⟩, ?_, ?_, hn⟩
  · rw [t16]
    exact (ends_iff (sm_byt (hd_byt _ _))).2 ⟨_, hd_byt _ _, rfl⟩
  · rw [hso, hn, List.drop_left' (st_len _ _), st_len]
  · rw [hn, t20]
    exact (ends_iff (st_byt _ hb)).2 ⟨_, (sm_byt (hd_byt _ _)).append hb, rfl⟩
  · unfold seqOf
    rw [hso, hst, List.append_assoc, List.take_left' (lo_len _ _), va_lo 8 _ (by
      have : (256 : Nat) ^ 8 = 18446744073709551616 := by decide
      omega)]
  · unfold bodyOf
    have hsl : (sm (hd seq body.length)).length = 16 := by rw [sm_len, hd_len]
    rw [hn, hso, st, sm, List.append_assoc, List.append_assoc, List.append_assoc, List.drop_left' hsl, List.take_left' rfl]

theorem tak_bad {x : List Int} (hb : Byt x) (h : ¬ FGood x) : tak x = none := by
  unfold tak
  rw [if_neg]
  rintro ⟨h1, h2, h3⟩
  have hl := bodyOf_len h2
  exact h (fra_good (seqOf_lt hb) (bodyOf_byt hb) (by omega) (by rw [hl]; exact h2) (by rw [hl]; exact h3)).1
theorem tak_some {x : List Int} (hb : Byt x) {seq : Nat} {body : List Int} (h : tak x = some (seq, body)) :
    seq < 18446744073709551616 ∧ Byt body ∧ body.length ≤ 65536 ∧ fra seq body = x.take (32 * nb body.length) ∧ 32 * nb body.length ≤ x.length ∧ FGood x ∧ seq = seqOf x ∧ body = bodyOf x ∧ nOf x = body.length := by
  by_cases hg : FGood x
  · rw [tak_good hb hg] at h
    simp only [Option.some.injEq, Prod.mk.injEq] at h
    obtain ⟨rfl, rfl⟩ := h
    have hl := bodyOf_len hg.2.1
    have h1 := hg.1
    exact ⟨seqOf_lt hb, bodyOf_byt hb, by omega, by rw [hl]; exact good_tak hb hg, by rw [hl]; exact hg.2.1, hg, rfl, rfl, hl.symm⟩
  · rw [tak_bad hb hg] at h
    cases h
end Go.Proofs.YthfcjfhaoabdeaaGreatDoor
