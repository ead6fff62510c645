/-
  firstBody and framed: frames of bodies, one behind the other.
-/
import Derived.Test.YthfcjfhaoabdeaaGreatDoorRz28
import Derived.Test.YthfcjfhaoabdeaaGreatDoorRz31
import Derived.Test.YthfcjfhaoabdeaaGreatDoorRz30
import Derived.Test.YthfcjfhaoabdeaaGreatDoorRz10
import Derived.Test.YthfcjfhaoabdeaaGreatDoorRz9
import Derived.Test.YthfcjfhaoabdeaaGreatDoorRz22
import Derived.Test.YthfcjfhaoabdeaaGreatDoorRz11
set_option linter.unusedVariables false
set_option linter.unusedSimpArgs false
namespace Go.Proofs.YthfcjfhaoabdeaaGreatDoor
open Go.RowKit

def fstB (n : Int) : List Int := 76 :: enc n
theorem fstB_byt (n : Int) (h : 0 ≤ n) : Byt (fstB n) := Byt.cons (by omega) (enc_byt n h)
theorem fstB_len (n : Int) : (fstB n).length ≤ 11 := by
  have := enc_len n
  simp only [fstB, List.length_cons]
  omega

set_option maxRecDepth 100000 in
set_option maxHeartbeats 1000000 in
theorem firstBody_any (n : Int) (h0 : 0 ≤ n) (h1 : n ≤ 9223372036854775807) (w : World) :
    Calls Tryz.prog 135 #[.int .i64 n] w fun e w' => ∃ v, e = .returned v ∧ Own w' w.heap.size v (fstB n) ∧ Below w.heap.size w w' := by
  have hW : Below w.heap.size w (w.alloc (.cells #[.int .u8 76] 5)) := (Below.refl _ _).alloc (Nat.le_refl _) _
  have hsz : (w.alloc (.cells #[.int .u8 76] 5)).heap.size = w.heap.size + 1 := by simp
  have hs : Sl (w.alloc (.cells #[.int .u8 76] 5)) (some ⟨w.heap.size, 0, none⟩) 1 1 [76] := by
    refine ⟨rfl, by omega, by unfold maxLen; omega, Byt.cons (by omega) Byt.nil, (fun e => by cases e), fun _ => ⟨_, _, rfl, by omega, fun i hi => ?_⟩⟩
    obtain rfl : i = 0 := by omega
    rw [Go.Joins.cell_of_block (heap_alloc_new w _)]
    rfl
  have HP := hid8 (put_any _ _ _ _ n _ hs h0 (by omega) (by omega))
  have hu : IntKind.u64.wrap n = n := by rw [IntKind.wrap_u64]; omega
  clear hs
  go_enter Tryz.func135, Tryz.ntmps135
  go_wp2_with fail
  refine HP.out.mono ?_
  rintro e w' ⟨v', rfl, ho, hb⟩
  have HO := hid8 ho
  have HB := hid8 (hW.trans (hb.mono (by omega)))
  clear HP ho hb hW
  go_wp2
  go_ret
  exact ⟨v', rfl, HO.out.low (by omega), HB.out⟩

/-- A body by itself as a frame. -/
theorem fput_one (seq : Int) (bo : Option Addr) (bl bcap : Nat) (body : List Int) (w : World) (hbd : Sl w bo bl bcap body) (h0 : 0 ≤ seq) (h1 : seq ≤ 18446744073709551615) (hl : body.length ≤ 65536) :
    Calls Tryz.prog 234 #[.slice none 0 0, .int .u64 seq, .slice bo bl bcap] w fun e w' => ∃ v, e = .returned (.tuple #[v, .int .i64 0]) ∧ Own w' w.heap.size v (fra seq.toNat body) ∧ Below w.heap.size w w' := by
  refine (fput_any none 0 0 [] seq bo bl bcap body w (Sl.nil w) hbd h0 h1 (by omega)).mono ?_
  rintro e w' ⟨⟨v, rfl, ho⟩, hb⟩
  have e0 : ptE [] body = 0 := by unfold ptE; rw [if_neg (by simp), if_neg (by omega)]
  refine ⟨v, by rw [e0], ?_, hb⟩
  have : ptV seq.toNat [] body = fra seq.toNat body := by unfold ptV; rw [if_pos e0]; rfl
  rw [← this]
  exact ho

theorem fras_take (f : Nat) (bs : List (List Int)) (k : Nat) (hk : k < bs.length) (hf : f < 18446744073709551616) : fras f (bs.take (k + 1)) = fras f (bs.take k) ++ fra ((f + k) % 18446744073709551616) (bs.getD k []) := by
  have e : bs.take (k + 1) = bs.take k ++ [bs.getD k []] := by
    rw [← List.take_append_getElem hk]
    congr 2
    simp [List.getD, List.getElem?_eq_getElem hk]
  rw [e, fras_snoc _ _ _ hf, List.length_take, Nat.min_eq_left (by omega)]
theorem Okb.getD {bs : List (List Int)} (h : Okb bs) (k : Nat) : (bs.getD k []).length ≤ 65536 := by
  by_cases hk : k < bs.length
  · have : bs.getD k [] ∈ bs := by simp [List.getD, List.getElem?_eq_getElem hk]
    exact (h _ this).1
  · simp [List.getD, List.getElem?_eq_none (Nat.le_of_not_lt hk)]

set_option maxRecDepth 100000 in
set_option maxHeartbeats 4000000 in
theorem framed_any {w : World} {ao : Option Addr} {len cap : Nat} {bs : List (List Int)} (h : Pl w ao len cap bs) (ho : Okb bs) (hl : len ≤ 1000000000) (f : Nat) (hf : f < 18446744073709551616) :
    Calls Tryz.prog 178 #[.int .u64 (f : Int), .slice ao len cap] w fun e w' => ∃ v, e = .returned v ∧ Own w' w.heap.size v (fras f bs) ∧ Below w.heap.size w w' := by
  obtain ⟨i0, hi, hz0, hz1, hz2⟩ := info_parts Tryz.infoU8
  have hnil : Own w w.heap.size (.slice none 0 0) (fras f (bs.take 0)) := World.ownsRow_nil _ _ _ _
  have HL : Hid (bs.length = len) := hid8 h.1
  have HH := hid8 h
  have HO := hid8 ho
  have hlen : (len : Int) ≤ 1000000000 := by omega
  clear h ho
  go_enter Tryz.func178, Tryz.ntmps178
  go_wp2
  go_loopw [5, 6, 7, 8, 9, 12] (fun v _ _ _ _ i wr => ∃ k : Nat, k ≤ len ∧ i = .int .i64 (k : Int) ∧ Own wr w.heap.size v (fras f (bs.take k)) ∧ Below w.heap.size w wr) (fun _ _ _ _ _ i _ => len - (intOf i).toNat)
  case atStart => exact ⟨0, by omega, rfl, hnil, Below.refl _ _⟩
  case round =>
    clear hnil
    obtain ⟨k, hk, rfl, hv, hb⟩ := hrel
    have hsz := hb.size
    by_cases hkl : k < len
    · obtain ⟨b, off, rfl, hbl, hc⟩ := (HH.out.below hb).2.2.2 (by omega)
      obtain ⟨a, l, c, q, hsl⟩ := hc k hkl
      have hob : (bs.getD k []).length ≤ 65536 := HO.out.getD k
      have HE : Hid (fras f (bs.take (k + 1)) = fras f (bs.take k) ++ fra ((f + k) % 18446744073709551616) (bs.getD k [])) := hid8 (fras_take f bs k (by have := HL.out; omega) hf)
      have hkl2 : (k : Int) < (len : Int) := by omega
      have hle : (fras f (bs.take k)).length ≤ 70000 * k := by
        rw [fras_len]
        have := eo_bound (bs.take k) (HO.out.take k)
        rw [List.length_take] at this
        have : min k bs.length ≤ k := Nat.min_le_left _ _
        omega
      have hu : IntKind.u64.wrap (IntKind.u64.wrap (f : Int) + IntKind.u64.wrap (k : Int)) = (((f + k) % 18446744073709551616 : Nat) : Int) := by
        rw [IntKind.wrap_u64, IntKind.wrap_u64, IntKind.wrap_u64]; omega
      have hu2 : IntKind.u64.wrap ((f : Int) + (k : Int)) = (((f + k) % 18446744073709551616 : Nat) : Int) := by
        rw [IntKind.wrap_u64]; omega
      have hu3 : IntKind.u64.wrap (k : Int) = (k : Int) := by rw [IntKind.wrap_u64]; omega
      generalize hF : (f + k) % 18446744073709551616 = F at *
      have hF2 : F < 18446744073709551616 := by rw [← hF]; exact Nat.mod_lt _ (by decide)
      have HP := hid8 (fput_one (F : Int) a l c (bs.getD k []) wr hsl (by omega) (by omega) hob)
      rw [Int.toNat_natCast] at HP
      have HV := hid8 hv
      have HB := hid8 hb
      have hfl : (fra F (bs.getD k [])).length ≤ 70000 := by
        rw [fra_len]
        have := nb_lt (bs.getD k []).length
        omega
      have HFB : Hid (Byt (fra F (bs.getD k []))) := hid8 (fra_byt F hsl.2.2.2.1)
      generalize hX : fra F (bs.getD k []) = X at *
      generalize hY : fras f (bs.take k) = Y at *
      clear hc hv hb hsl hob hF hX
      go_wp2_with fail
      refine HP.out.mono ?_
      rintro e w1 ⟨v1, rfl, ho1, hb1⟩
      have hs1 := hb1.size
      have hv1 : Own w1 w.heap.size _ Y := HV.out.keep hb1
      obtain ⟨a1, c1, rfl, sl1, lo1⟩ := ho1.sl HFB.out
      have HB1 := hid8 (HB.out.trans (hb1.mono (by omega)))
      have hbase : w.heap.size ≤ w1.heap.size := by omega
      clear HP HV HB hb1 ho1 lo1 q
      go_wp2_with (first | (at_builtin; refine wpList_append_sl rfl _ _ 82 rfl w.heap.size i0 Tryz.underlying82 hi hz0 hz1 hz2 _ Y rfl hv1 a1 _ c1 X rfl sl1 (by omega) hbase ?_) | fail)
      intro v2 w2 ho2 hb2
      have HV2 := hid8 ho2
      have HB2 := hid8 (HB1.out.trans hb2)
      clear ho2 hb2 hv1 sl1 HB1
      go_wp2
      go_roundw
      case rel => exact ⟨k + 1, by omega, by go_num, by rw [HE.out]; exact HV2.out, HB2.out⟩
      case measure => simp [intOf]; omega
    · obtain rfl : k = len := by omega
      rw [show bs.take k = bs from by rw [← HL.out]; exact List.take_length] at hv
      have HV := hid8 hv
      have HB := hid8 hb
      clear hv hb
      go_wp2
      go_ret
      exact ⟨_, rfl, HV.out, HB.out⟩
end Go.Proofs.YthfcjfhaoabdeaaGreatDoor

/-
  Reading a segment: bodies, commits, what a reader has behind it. No program in sight.
-/
set_option linter.unusedVariables false
set_option linter.unusedSimpArgs false
namespace Go.Proofs.YthfcjfhaoabdeaaGreatDoor
open Go.RowKit

/-- The commits among bodies. -/
def coms : List (List Int) → Option (List Cm)
  | [] => some []
  | b :: r => if b = [] then coms r else if (vC b).2 = 0 then (coms r).map (oC b :: ·) else none
structure Rdr where
  begun : Bool
  next : Nat
  cs : List Cm
def Rdr.bg (r : Rdr) (xs : List Int) : Bool := r.begun || (takA xs 0).isSome
def Rdr.nx (r : Rdr) (xs : List Int) : Nat := if r.begun = true then r.next else match takA xs 0 with | some q => q.1 | none => r.next
/-- What bodies of a segment leave of a reader. -/
def seg2 (n : Int) (bs : List (List Int)) (bg : Bool) (nx : Nat) (cs : List Cm) : Option Rdr := match bs with
  | [] => some ⟨bg, nx, cs⟩
  | b :: r => if b = fstB n then (coms r).map fun k => ⟨bg, (nx + (r.length + 1)) % 18446744073709551616, cs ++ k⟩ else none
def SegR (xs : List Int) (n : Int) (r : Rdr) (x : Option Rdr) : Prop :=
  (∃ q, takA xs 0 = some q ∧ q.1 ≠ r.nx xs ∧ x = none) ∨
  ((∀ q, takA xs 0 = some q → q.1 = r.nx xs) ∧ ∃ bs a f, goes xs bs 0 (r.nx xs) = some (a, f) ∧ (∀ b, takA xs (a : Int) ≠ some (f, b)) ∧
    (Late xs a f ∧ x = none ∨ ¬ Late xs a f ∧ x = seg2 n bs (r.bg xs) (r.nx xs) r.cs))

theorem coms_append : ∀ (a b : List (List Int)), coms (a ++ b) = match coms a with | none => none | some k => (coms b).map (k ++ ·)
  | [], b => by simp [coms]
  | x :: a, b => by
    have ih := coms_append a b
    simp only [List.cons_append, coms, ih]
    split
    · rfl
    · split
      · cases coms a with
        | none => rfl
        | some k => cases coms b <;> simp
      · rfl
theorem coms_none {a b : List (List Int)} (h : coms a = none) : coms (a ++ b) = none := by rw [coms_append, h]
theorem coms_snoc {a : List (List Int)} {k : List Cm} (h : coms a = some k) (b : List Int) : coms (a ++ [b]) = if b = [] then some k else if (vC b).2 = 0 then some (k ++ [oC b]) else none := by
  rw [coms_append, h]
  simp only [coms]
  split
  · simp
  · split <;> simp
theorem coms_len : ∀ {a : List (List Int)} {k : List Cm}, coms a = some k → k.length ≤ a.length
  | [], k, h => by
    simp only [coms, Option.some.injEq] at h
    subst h
    simp
  | x :: a, k, h => by
    simp only [coms] at h
    split at h
    · have := coms_len h
      simp only [List.length_cons]
      omega
    · split at h
      · cases e : coms a with
        | none => rw [e] at h; cases h
        | some k' =>
          rw [e] at h
          simp only [Option.map_some, Option.some.injEq] at h
          subst h
          have := coms_len e
          simp only [List.length_cons]
          omega
      · cases h
end Go.Proofs.YthfcjfhaoabdeaaGreatDoor
