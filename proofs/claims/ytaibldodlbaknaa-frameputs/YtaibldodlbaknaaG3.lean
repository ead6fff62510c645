/-
  What the document's own Put does.
-/
import Derived.Test.YtaibldodlbaknaaG2
import Derived.Deep.DeepAppendWide
set_option linter.unusedVariables false
set_option linter.unusedSimpArgs false
namespace Go.Proofs.Ytaibldodlbaknaa
open Go.RowKit

/-- 'append(v, x...)', v an own row, x a slice of bytes, however great. -/
theorem wpList_append_sl_wide {P : Program} {w : World} {ops : Array Oper} {rest : List Oper} {o : Oper} {a : Act} {Q : Exit → Act → World → Prop} (hgd : o.guard = none) (s x : Operand) (t : TypeId)
    (ho : o.op = .call { callee := .builtin .append, args := #[s, x], argTypes := #[t, t] })
    (base : Nat) (i : TypeInfo) (ht : P.underlying t = some (.slice 5)) (hi : P.info? 5 = some i) (hz : i.zero = some (.int .u8 0)) (hsize : i.size = 1) (hby : i.bytes = 1)
    (v : Value) (xs : List Int) (hs : a.eval s = v) (hown : Own w base v xs) (ao : Option Addr) (len cap : Nat) (ys : List Int) (hx : a.eval x = .slice ao len cap) (hsl : Sl w ao len cap ys)
    (hlen : (xs.length + len) + (xs.length + len) / 4 + 192 ≤ 281474976710656) (hbase : base ≤ w.heap.size)
    (h : ∀ v' w', Own w' base v' (xs ++ ys) → Below base w w' → wpList P ops Q rest (a.put o.dst v') w') : wpList P ops Q (o :: rest) a w := by
  obtain ⟨h1, h2, h3, h4, h5, h6⟩ := hsl
  cases ao with
  | none =>
    obtain ⟨rfl, rfl⟩ := h5 rfl
    obtain rfl : ys = [] := List.eq_nil_of_length_eq_zero h1
    exact wpList_append_own_none hgd s x t ho base 5 i 1 ht hi v _ _ hs hown hx (h v w (by simpa using hown) (Below.refl _ _))
  | some ad =>
    refine wpList_append_own_wide w hgd s x t ho base 5 i (.int .u8 0) 1 1 ht hi hz hsize hby rfl (by decide) v _ _ hs hown ad len cap (bc ys) hx (by rw [bc_length]; omega) ?_ (bc_one ys) (by unfold maxLen; omega) (by omega) hbase ?_
    · intro j u hj
      obtain ⟨hj1, rfl⟩ := bc_get ys j u hj
      obtain ⟨b, off, e, _, hc⟩ := h6 (by omega)
      obtain rfl : ad = ⟨b, off, none⟩ := by simpa using e
      rw [addr_add]
      exact hc j (by omega)
    · intro v' w' ho' hg _
      refine h v' w' ?_ (Own.grown hown hg hbase)
      refine Own.of_bc (n := xs.length + len) ?_ (by simp; omega)
      rw [bc_append]
      exact ho'

set_option maxHeartbeats 2000000 in
theorem refPut_any (ao : Option Addr) (len cap : Nat) (xs : List Int) (seq : Int) (bo : Option Addr) (bl bcap : Nat) (body : List Int) (w : World) (h : Sl w ao len cap xs) (hbd : Sl w bo bl bcap body) (h0 : 0 ≤ seq) (h1 : seq ≤ 18446744073709551615) (hl : len ≤ 140737488355328) :
    Calls Try.prog 12 #[.slice ao len cap, .int .u64 seq, .slice bo bl bcap] w fun e w' => PtR w seq.toNat xs body e w' ∧ Below w.heap.size w w' := by
  obtain ⟨i0, hi, hz0, hz1, hz2⟩ := info_parts Try.info5
  have hx := h.1
  have hbx := hbd.1
  have hlen : (len : Int) ≤ 281474976710656 := by omega
  have hbl : (bl : Int) ≤ 9223372036854775807 := by have := hbd.2.1; have := hbd.2.2.1; unfold maxLen at this; omega
  have hnil : Own w w.heap.size (.slice none 0 0) [] := World.ownsRow_nil _ _ _ _
  by_cases hm : ¬ (len : Int) % 32 = 0
  · have hE : Hid (ptE xs body = 2) := by unfold Hid ptE; rw [if_pos (by omega)]
    have hV : Hid (ptV seq.toNat xs body = []) := by unfold Hid ptV; rw [hE.out, if_neg (by decide)]
    have hr1 : ((len : Int) % 32 == 0) = false := by simpa using hm
    have hr2 : ((len : Int) % 32 != 0) = true := by simpa using hm
    go_enter Try.func12, Try.ntmps12
    go_wp2
    go_ret2
    exact ⟨⟨_, by rw [hE.out]; rfl, by rw [hV.out]; exact hnil⟩, Below.refl _ _⟩
  have hm' : (len : Int) % 32 = 0 := by omega
  have hr1 : ((len : Int) % 32 == 0) = true := by simpa using hm'
  have hr2 : ((len : Int) % 32 != 0) = false := by simpa using hm'
  clear hm
  by_cases hbig : 65536 < bl
  · have hE : Hid (ptE xs body = 40) := by unfold Hid ptE; rw [if_neg (by omega), if_pos (by omega)]
    have hV : Hid (ptV seq.toNat xs body = []) := by unfold Hid ptV; rw [hE.out, if_neg (by decide)]
    have hbi : (65536 : Int) < (bl : Int) := by omega
    go_enter Try.func12, Try.ntmps12
    go_wp2
    go_ret2
    exact ⟨⟨_, by rw [hE.out]; rfl, by rw [hV.out]; exact hnil⟩, Below.refl _ _⟩
  have hbi : ¬ (65536 : Int) < (bl : Int) := by omega
  have hE : Hid (ptE xs body = 0) := by unfold Hid ptE; rw [if_neg (by omega), if_neg (by omega)]
  have hV : Hid (ptV seq.toNat xs body = xs ++ fra seq.toNat body) := by unfold Hid ptV; rw [hE.out, if_pos rfl]
  have hfl : (fra seq.toNat body).length ≤ 70000 := by
    have := nb_lt bl
    rw [fra_len, hbx]
    omega
  have hfb := fra_byt seq.toNat hbd.2.2.2.1
  go_enter Try.func12, Try.ntmps12
  go_wp2_with (first | (at_builtin; refine wpList_append_sl rfl _ _ 22 rfl w.heap.size i0 Try.underlying22 hi hz0 hz1 hz2 _ _ rfl hnil ao len cap xs rfl h (by simp; omega) (Nat.le_refl _) ?_) | fail)
  intro v1 w1 hown1 hb1
  replace hown1 : Own w1 w.heap.size v1 xs := hown1
  have hbd1 := hbd.below hb1
  clear h hbd
  go_wp2_with fail
  refine (frame_any bo bl bcap body seq w1 hbd1 h0 h1 (by omega)).mono ?_
  rintro e w2 ⟨v2, rfl, hown2, hb2⟩
  have hown1' := hown1.up hb2
  have hb02 : Below w.heap.size w w2 := hb1.trans (hb2.mono hb1.size)
  have hs2 := hb02.size
  obtain ⟨a2, l2, c2, rfl, hsl2, _⟩ := hown2.sl' hfb
  have hl2 := hsl2.1
  clear hown1 hown2 hb1 hb2 hbd1
  go_wp2_with (first | (at_builtin; refine wpList_append_sl_wide rfl _ _ 22 rfl w.heap.size i0 Try.underlying22 hi hz0 hz1 hz2 _ _ rfl hown1' a2 l2 c2 _ rfl hsl2 (by omega) hs2 ?_) | fail)
  intro v3 w3 hown3 hb3
  have hb03 := hb02.trans hb3
  replace hown3 := hF hown3
  clear hown1' hsl2 hb02 hb3
  go_wp2
  go_ret2
  exact ⟨⟨_, by rw [hE.out]; rfl, by rw [hV.out]; exact hown3.out⟩, hb03⟩
end Go.Proofs.Ytaibldodlbaknaa
