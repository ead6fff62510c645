/-
  How the program puts numbers, texts, lists and records behind bytes.
-/
import Derived.Test.YtffgmpgmflbekaaGreatDoorXE4
import Derived.Test.YtffgmpgmflbekaaGreatDoorXE5
import Derived.Test.YtffgmpgmflbekaaGreatDoorXText
import Derived.Laws.EntriesVeiled
import Derived.Maps.AppendAt
import Derived.Deep.RegionHeld3
set_option linter.unusedVariables false
set_option linter.unusedSimpArgs false
namespace Go.Proofs.YtffgmpgmflbekaaGreatDoor.EL
open Go.RowKit Go.Maps

theorem Own.keep {w w' : World} {base : Nat} {v : Value} {xs : List Int} (h : Own w base v xs) (hb : Below w.heap.size w w') : Own w' base v xs := by
  refine World.ownsRow.kept h (row := none) ⟨hb.os, hb.tape, hb.output, hb.size, fun k hk _ => hb.block k hk⟩ ?_
  cases hv : v.ownBlock <;> simp
theorem Own.low {w : World} {base base' : Nat} {v : Value} {xs : List Int} (h : Own w base v xs) (hb : base' ≤ base) : Own w base' v xs := by
  refine ⟨h.1, ?_⟩
  rcases h.2 with hn | ⟨g, cap, cur, e, hg, rest⟩
  · exact .inl hn
  · exact .inr ⟨g, cap, cur, e, Nat.le_trans hb hg, rest⟩

/-- What is put behind a row changes that row alone, and leaves it where it is or in new memory. -/
structure Pt (w w' : World) (v v' : Value) : Prop where
  g : w.grownBy w' v.ownBlock
  to : v'.ownBlock = v.ownBlock ∨ ∃ j, v'.ownBlock = some j ∧ w.heap.size ≤ j
theorem Pt.refl (w : World) (v : Value) : Pt w w v v := ⟨World.grownBy.refl _ _, .inl rfl⟩
theorem Pt.trans {w w1 w2 : World} {v v1 v2 : Value} (h : Pt w w1 v v1) (k : Pt w1 w2 v1 v2) : Pt w w2 v v2 := by
  have hs := h.g.size
  refine ⟨⟨k.g.os.trans h.g.os, k.g.tape.trans h.g.tape, k.g.output.trans h.g.output, Nat.le_trans hs k.g.size, fun j hj hn => ?_⟩, ?_⟩
  · refine (k.g.block j (by omega) ?_).trans (h.g.block j hj hn)
    rcases h.to with e | ⟨i, e, hi⟩
    · rwa [e]
    · rw [e]
      intro e2
      simp only [Option.some.injEq] at e2
      omega
  · rcases k.to with e | ⟨i, e, hi⟩
    · rcases h.to with e1 | ⟨i1, e1, hi1⟩
      · exact .inl (e.trans e1)
      · exact .inr ⟨i1, e.trans e1, hi1⟩
    · exact .inr ⟨i, e, by omega⟩
theorem Pt.below {w w' : World} {v : Value} (hb : Below w.heap.size w w') : Pt w w' v v := ⟨⟨hb.os, hb.tape, hb.output, hb.size, fun k hk _ => hb.block k hk⟩, .inl rfl⟩
theorem Pt.alloc (w : World) (v : Value) (o : Obj) : Pt w (w.alloc o) v v := .below ((Below.refl _ _).alloc (Nat.le_refl _) _)
theorem Pt.drew {w w' : World} {v v' : Value} (h : Pt w w' v v') : Pt w w'.drew v v' := ⟨⟨h.g.os, h.g.tape, h.g.output, h.g.size, h.g.block⟩, h.to⟩
/-- Where the row is the call's own, all that was there is as it was. -/
theorem Pt.blow {w w' : World} {v v' : Value} (h : Pt w w' v v') {base : Nat} (hv : ∀ k, v.ownBlock = some k → base ≤ k) (hb : base ≤ w.heap.size) : Below base w w' :=
  ⟨h.g.os, h.g.tape, h.g.output, h.g.size, fun k hk => h.g.block k (by omega) fun e => by have := hv k e.symm; omega⟩
/-- Another block is as it was, and is not the row's behind it either. -/
theorem Pt.block {w w' : World} {v v' : Value} (h : Pt w w' v v') {k : Nat} (hk : k < w.heap.size) (hn : some k ≠ v.ownBlock) : w'.heap[k]? = w.heap[k]? ∧ some k ≠ v'.ownBlock := by
  refine ⟨h.g.block k hk hn, ?_⟩
  rcases h.to with e | ⟨i, e, hi⟩
  · rwa [e]
  · rw [e]
    intro e2
    simp only [Option.some.injEq] at e2
    omega
theorem Own.ne {w : World} {base : Nat} {v : Value} {xs : List Int} (h : Own w base v xs) : some w.heap.size ≠ v.ownBlock := fun e => by
  have := (World.ownsRow.lt h _ e.symm).2
  omega

/-- 'append(v, x...)', v an own row, x a slice of bytes; and where the new row lies. -/
theorem wpList_append_pt {P : Program} {w : World} {ops : Array Oper} {rest : List Oper} {o : Oper} {a : Act} {Q : Exit → Act → World → Prop} (hgd : o.guard = none) (s x : Operand) (t : TypeId)
    (ho : o.op = .call { callee := .builtin .append, args := #[s, x], argTypes := #[t, t] })
    (base : Nat) (i : TypeInfo) (ht : P.underlying t = some (.slice 5)) (hi : P.info? 5 = some i) (hz : i.zero = some (.int .u8 0)) (hsize : i.size = 1) (hby : i.bytes = 1)
    (v : Value) (xs : List Int) (hs : a.eval s = v) (hown : Own w base v xs) (ao : Option Addr) (len cap : Nat) (ys : List Int) (hx : a.eval x = .slice ao len cap) (hsl : Sl w ao len cap ys)
    (hlen : xs.length + len ≤ 140737488355328) (hbase : base ≤ w.heap.size)
    (h : ∀ v' w', Own w' base v' (xs ++ ys) → Pt w w' v v' → wpList P ops Q rest (a.put o.dst v') w') : wpList P ops Q (o :: rest) a w := by
  obtain ⟨h1, h2, h3, h4, h5, h6⟩ := hsl
  cases ao with
  | none =>
    obtain ⟨rfl, rfl⟩ := h5 rfl
    obtain rfl : ys = [] := List.eq_nil_of_length_eq_zero h1
    exact wpList_append_own_none hgd s x t ho base 5 i 1 ht hi v _ _ hs hown hx (h v w (by simpa using hown) (Pt.refl _ _))
  | some ad =>
    refine wpList_append_own_at w hgd s x t ho base 5 i (.int .u8 0) 1 1 ht hi hz hsize hby rfl (by decide) v _ _ hs hown ad len cap (bc ys) hx (by rw [bc_length]; omega) ?_ (bc_one ys) (by unfold maxLen; omega) (by omega) hbase ?_
    · intro j u hj
      obtain ⟨hj1, rfl⟩ := bc_get ys j u hj
      obtain ⟨b, off, e, _, hc⟩ := h6 (by omega)
      obtain rfl : ad = ⟨b, off, none⟩ := by simpa using e
      rw [addr_add]
      exact hc j (by omega)
    · intro v' w' ho' hg _ hb
      refine h v' w' ?_ ⟨hg, ?_⟩
      · refine Own.of_bc (n := xs.length + len) ?_ (by simp; omega)
        rw [bc_append]
        exact ho'
      · rcases hb with e | e
        · exact .inl e
        · exact .inr ⟨_, e, Nat.le_refl _⟩

theorem blk_alloc' (w : World) (o : Obj) (k : Nat) (h : k < w.heap.size) : (w.alloc o).heap[k]? = w.heap[k]? := ((Below.refl w.heap.size w).alloc (Nat.le_refl _) o).block k h
theorem cell_byte (w : World) (y : Int) : (w.alloc (.cells #[.int .u8 y] 5)).cell? ⟨w.heap.size, 0, none⟩ = some (.int .u8 y) := by
  rw [Go.Joins.cell_of_block (heap_alloc_new w _)]; rfl

/-- One byte appended in a region that draws. -/
theorem step_append_byte {P : Program} {ops : Array Oper} {o : Oper} {a : Act} {w : World} {K : Act → World → Prop} {Q : Exit → Act → World → Prop} {E : Prop}
    (hg : o.guard = none) (s x : Operand) (t : TypeId) (hop : o.op = Op.call { callee := Callee.builtin Builtin.append, args := #[s, x], argTypes := #[t, t] })
    (base : Nat) (i : TypeInfo) (ht : P.underlying t = some (.slice 5)) (hi : P.info? 5 = some i) (hz : i.zero = some (.int .u8 0)) (hsize : i.size = 1) (hby : i.bytes = 1)
    (v : Value) (xs : List Int) (hs : a.eval s = v) (hown : Own w base v xs) (g : Nat) (y : Int) (hx : a.eval x = .slice (some ⟨g, 0, none⟩) 1 1) (hc : w.cell? ⟨g, 0, none⟩ = some (.int .u8 y))
    (hlen : xs.length ≤ 1000000) (hbase : base ≤ w.heap.size)
    (h : ∀ v' w', Own w' base v' (xs ++ [y]) → Pt w w' v v' → K (a.put o.dst v') w') :
    if Region.wanted o (yielded ops a.tmps) = true then Oper.wp P o a w K Q else E := by
  have hw : Region.wanted o (yielded ops a.tmps) = true := by simp [Region.wanted, hg]
  rw [if_pos hw]
  obtain ⟨v', w', hr, h2, h3, h4, h5⟩ := run_append_own_at (P := P) w base t o.type 5 i (.int .u8 0) 1 1 ht hi hz hsize hby rfl (by decide) v xs.length (bc xs) hown ⟨g, 0, none⟩ 1 1 [.int .u8 y] rfl (fun j u hj => by
    cases j with
    | zero => cases hj; exact hc
    | succ j => cases hj) (one_u8 _) (by unfold maxLen; omega) (by omega) hbase
  unfold Oper.wp
  simp [execOp, hop, resolve, invoke, builtin, hs, hx, hr, Result.andThen]
  refine h v' w' (Own.snoc h2) ⟨h3, ?_⟩
  rcases h5 with e | e
  · exact .inl e
  · exact .inr ⟨_, e, Nat.le_refl _⟩

section
variable {w : World} {base : Nat} {v : Value} {xs : List Int}
set_option maxRecDepth 100000
set_option maxHeartbeats 2000000

theorem putNumber_any (n : Int) (h : Own w base v xs) (hbase : base ≤ w.heap.size) (h0 : 0 ≤ n) (h1 : n ≤ 18446744073709551615) (hl : xs.length ≤ 1000000) :
    Calls Tryz.prog 234 #[v, .int .u64 n] w fun e w' => ∃ v', e = .returned v' ∧ Own w' base v' (xs ++ enc n) ∧ Pt w w' v v' := by
  obtain ⟨i0, hi, hz0, hz1, hz2⟩ := info_parts Tryz.infoU8
  have hel := enc_len n
  go_enter Tryz.func234, Tryz.ntmps234
  go_wp2_with fail
  refine (put_any none 0 0 [] n w (Sl.nil w) h0 h1 (by omega)).mono ?_
  rintro e w2 ⟨v2, rfl, hown2, hb2⟩
  rw [List.nil_append] at hown2
  replace hown2 : Own w2 w.heap.size v2 (enc n) := hown2
  have hown1 : Own w2 base v xs := h.keep hb2
  obtain ⟨a2, l2, c2, rfl, hsl2, _⟩ := hown2.sl' (enc_byt n h0)
  have hl2 := hsl2.1
  have hs2 : base ≤ w2.heap.size := Nat.le_trans hbase hb2.size
  have hbb : Pt w w2 v v := .below hb2
  clear hown2 hb2 h
  go_wp2_with (first | (at_builtin; refine wpList_append_pt rfl _ _ 43 rfl base i0 Tryz.underlying43 hi hz0 hz1 hz2 v xs rfl hown1 a2 l2 c2 (enc n) rfl hsl2 (by omega) hs2 ?_) | fail)
  intro v3 w3 hown3 hb3
  have hb4 := hbb.trans hb3
  clear hbb hb3 hown1 hsl2 hs2
  go_wp2
  go_ret
  exact ⟨_, rfl, hown3, hb4⟩

theorem putText2_any (s : ByteArray) (h : Own w base v xs) (hbase : base ≤ w.heap.size) (hs : s.size ≤ 1000) (hl : xs.length ≤ 1000000) :
    Calls Tryz.prog 335 #[v, .string s] w fun e w' => ∃ v', e = .returned v' ∧ Own w' base v' (xs ++ tx s) ∧ Pt w w' v v' := by
  obtain ⟨i0, hi, hz0, hz1, hz2⟩ := info_parts Tryz.infoU8
  have hel := tx_len s
  go_enter Tryz.func335, Tryz.ntmps335
  go_wp2_with fail
  refine (putText_any none 0 0 [] s w (Sl.nil w) (by omega)).mono ?_
  rintro e w2 ⟨v2, rfl, hown2, hb2⟩
  rw [List.nil_append] at hown2
  replace hown2 : Own w2 w.heap.size v2 (tx s) := hown2
  have hown1 : Own w2 base v xs := h.keep hb2
  obtain ⟨a2, l2, c2, rfl, hsl2, _⟩ := hown2.sl' (tx_byt s)
  have hl2 := hsl2.1
  have hs2 : base ≤ w2.heap.size := Nat.le_trans hbase hb2.size
  have hbb : Pt w w2 v v := .below hb2
  clear hown2 hb2 h
  go_wp2_with (first | (at_builtin; refine wpList_append_pt rfl _ _ 43 rfl base i0 Tryz.underlying43 hi hz0 hz1 hz2 v xs rfl hown1 a2 l2 c2 (tx s) rfl hsl2 (by omega) hs2 ?_) | fail)
  intro v3 w3 hown3 hb3
  have hb4 := hbb.trans hb3
  clear hbb hb3 hown1 hsl2 hs2
  go_wp2
  go_ret
  exact ⟨_, rfl, hown3, hb4⟩

theorem putTime_any (n : Int) (h : Own w base v xs) (hbase : base ≤ w.heap.size) (h0 : 0 ≤ n) (h1 : n ≤ 1099511627775) (hl : xs.length ≤ 1000000) :
    Calls Tryz.prog 235 #[v, .int .i64 n] w fun e w' => ∃ v', e = .returned v' ∧ Own w' base v' (xs ++ enc n) ∧ Pt w w' v v' := by
  have h63 : n ≤ 9223372036854775807 := by omega
  have hp := putNumber_any n h hbase h0 (by omega) hl
  have HP := ehide3 hp
  clear hp h
  go_enter Tryz.func235, Tryz.ntmps235
  go_wp2_with fail
  refine HP.out.mono ?_
  rintro e w2 ⟨v2, rfl, ho, hb⟩
  go_wp2
  go_ret
  exact ⟨_, rfl, ho, hb⟩
end
end Go.Proofs.YtffgmpgmflbekaaGreatDoor.EL
