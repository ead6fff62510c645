/-
  How the program puts numbers, texts, lists and records behind bytes.
-/
import Derived.Test.YthfcjfhaoabdeaaGreatDoorRz20
import Derived.Test.YthfcjfhaoabdeaaGreatDoorRz14
import Derived.WalkSmall
import Derived.Test.YthfcjfhaoabdeaaGreatDoorRz11
import Derived.Laws.EntriesVeiled
import Derived.Maps.AppendAt
import Derived.Deep.RegionHeld3
set_option linter.unusedVariables false
set_option linter.unusedSimpArgs false
namespace Go.Proofs.YthfcjfhaoabdeaaGreatDoor
open Go.RowKit Go.Maps

theorem Own.keep {w w' : World} {base : Nat} {v : Value} {xs : List Int} (h : Own w base v xs) (hb : Below w.heap.size w w') : Own w' base v xs := by
  refine World.ownsRow.kept h (row := none) ⟨hb.os, hb.tape, hb.output, hb.size, fun k hk _ => hb.block k hk⟩ ?_
  cases hv : v.ownBlock <;> simp
theorem Own.low {w : World} {base base' : Nat} {v : Value} {xs : List Int} (h : Own w base v xs) (hb : base' ≤ base) : Own w base' v xs := by
  refine ⟨h.1, ?_⟩
  rcases h.2 with hn | ⟨g, cap, cur, e, hg, rest⟩
  · exact .inl hn
  · exact .inr ⟨g, cap, cur, e, Nat.le_trans hb hg, rest⟩

/-- What is put behind a row changes that row alone, and leaves it where it is or in new memory. -/
structure Pt (w w' : World) (v v' : Value) : Prop where
  g : w.grownBy w' v.ownBlock
  to : v'.ownBlock = v.ownBlock ∨ ∃ j, v'.ownBlock = some j ∧ w.heap.size ≤ j
theorem Pt.refl (w : World) (v : Value) : Pt w w v v := ⟨World.grownBy.refl _ _, .inl rfl⟩
theorem Pt.trans {w w1 w2 : World} {v v1 v2 : Value} (h : Pt w w1 v v1) (k : Pt w1 w2 v1 v2) : Pt w w2 v v2 := by
  have hs := h.g.size
  refine ⟨⟨k.g.os.trans h.g.os, k.g.tape.trans h.g.tape, k.g.output.trans h.g.output, Nat.le_trans hs k.g.size, fun j hj hn => ?_⟩, ?_⟩
  · refine (k.g.block j (by omega) ?_).trans (h.g.block j hj hn)
    rcases h.to with e | ⟨i, e, hi⟩
    · rwa [e]
    · rw [e]
      intro e2
      simp only [Option.some.injEq] at e2
      omega
  · rcases k.to with e | ⟨i, e, hi⟩
    · rcases h.to with e1 | ⟨i1, e1, hi1⟩
      · exact .inl (e.trans e1)
      · exact .inr ⟨i1, e.trans e1, hi1⟩
    · exact .inr ⟨i, e, by omega⟩
theorem Pt.below {w w' : World} {v : Value} (hb : Below w.heap.size w w') : Pt w w' v v := ⟨⟨hb.os, hb.tape, hb.output, hb.size, fun k hk _ => hb.block k hk⟩, .inl rfl⟩
theorem Pt.alloc (w : World) (v : Value) (o : Obj) : Pt w (w.alloc o) v v := .below ((Below.refl _ _).alloc (Nat.le_refl _) _)
theorem Pt.drew {w w' : World} {v v' : Value} (h : Pt w w' v v') : Pt w w'.drew v v' := ⟨⟨h.g.os, h.g.tape, h.g.output, h.g.size, h.g.block⟩, h.to⟩
/-- Where the row is the call's own, all that was there is as it was. -/
theorem Pt.blow {w w' : World} {v v' : Value} (h : Pt w w' v v') {base : Nat} (hv : ∀ k, v.ownBlock = some k → base ≤ k) (hb : base ≤ w.heap.size) : Below base w w' :=
  ⟨h.g.os, h.g.tape, h.g.output, h.g.size, fun k hk => h.g.block k (by omega) fun e => by have := hv k e.symm; omega⟩
/-- Another block is as it was, and is not the row's behind it either. -/
theorem Pt.block {w w' : World} {v v' : Value} (h : Pt w w' v v') {k : Nat} (hk : k < w.heap.size) (hn : some k ≠ v.ownBlock) : w'.heap[k]? = w.heap[k]? ∧ some k ≠ v'.ownBlock := by
  refine ⟨h.g.block k hk hn, ?_⟩
  rcases h.to with e | ⟨i, e, hi⟩
  · rwa [e]
  · rw [e]
    intro e2
    simp only [Option.some.injEq] at e2
    omega
theorem Own.ne {w : World} {base : Nat} {v : Value} {xs : List Int} (h : Own w base v xs) : some w.heap.size ≠ v.ownBlock := fun e => by
  have := (World.ownsRow.lt h _ e.symm).2
  omega

/-- 'append(v, x...)', v an own row, x a slice of bytes; and where the new row lies. -/
theorem wpList_append_pt {P : Program} {w : World} {ops : Array Oper} {rest : List Oper} {o : Oper} {a : Act} {Q : Exit → Act → World → Prop} (hgd : o.guard = none) (s x : Operand) (t : TypeId)
    (ho : o.op = .call { callee := .builtin .append, args := #[s, x], argTypes := #[t, t] })
    (base : Nat) (i : TypeInfo) (ht : P.underlying t = some (.slice 5)) (hi : P.info? 5 = some i) (hz : i.zero = some (.int .u8 0)) (hsize : i.size = 1) (hby : i.bytes = 1)
    (v : Value) (xs : List Int) (hs : a.eval s = v) (hown : Own w base v xs) (ao : Option Addr) (len cap : Nat) (ys : List Int) (hx : a.eval x = .slice ao len cap) (hsl : Sl w ao len cap ys)
    (hlen : xs.length + len ≤ 140737488355328) (hbase : base ≤ w.heap.size)
    (h : ∀ v' w', Own w' base v' (xs ++ ys) → Pt w w' v v' → wpList P ops Q rest (a.put o.dst v') w') : wpList P ops Q (o :: rest) a w := by
  obtain ⟨h1, h2, h3, h4, h5, h6⟩ := hsl
  cases ao with
  | none =>
    obtain ⟨rfl, rfl⟩ := h5 rfl
    obtain rfl : ys = [] := List.eq_nil_of_length_eq_zero h1
    exact wpList_append_own_none hgd s x t ho base 5 i 1 ht hi v _ _ hs hown hx (h v w (by simpa using hown) (Pt.refl _ _))
  | some ad =>
    refine wpList_append_own_at w hgd s x t ho base 5 i (.int .u8 0) 1 1 ht hi hz hsize hby rfl (by decide) v _ _ hs hown ad len cap (bc ys) hx (by rw [bc_length]; omega) ?_ (bc_one ys) (by unfold maxLen; omega) (by omega) hbase ?_
    · intro j u hj
      obtain ⟨hj1, rfl⟩ := bc_get ys j u hj
      obtain ⟨b, off, e, _, hc⟩ := h6 (by omega)
      obtain rfl : ad = ⟨b, off, none⟩ := by simpa using e
      rw [addr_add]
      exact hc j (by omega)
    · intro v' w' ho' hg _ hb
      refine h v' w' ?_ ⟨hg, ?_⟩
      · refine Own.of_bc (n := xs.length + len) ?_ (by simp; omega)
        rw [bc_append]
        exact ho'
      · rcases hb with e | e
        · exact .inl e
        · exact .inr ⟨_, e, Nat.le_refl _⟩

theorem blk_alloc' (w : World) (o : Obj) (k : Nat) (h : k < w.heap.size) : (w.alloc o).heap[k]? = w.heap[k]? := ((Below.refl w.heap.size w).alloc (Nat.le_refl _) o).block k h
theorem cell_byte (w : World) (y : Int) : (w.alloc (.cells #[.int .u8 y] 5)).cell? ⟨w.heap.size, 0, none⟩ = some (.int .u8 y) := by
  rw [Go.Joins.cell_of_block (heap_alloc_new w _)]; rfl

/-- One byte appended in a region that draws. -/
theorem step_append_byte {P : Program} {ops : Array Oper} {o : Oper} {a : Act} {w : World} {K : Act → World → Prop} {Q : Exit → Act → World → Prop} {E : Prop}
    (hg : o.guard = none) (s x : Operand) (t : TypeId) (hop : o.op = Op.call { callee := Callee.builtin Builtin.append, args := #[s, x], argTypes := #[t, t] })
    (base : Nat) (i : TypeInfo) (ht : P.underlying t = some (.slice 5)) (hi : P.info? 5 = some i) (hz : i.zero = some (.int .u8 0)) (hsize : i.size = 1) (hby : i.bytes = 1)
    (v : Value) (xs : List Int) (hs : a.eval s = v) (hown : Own w base v xs) (g : Nat) (y : Int) (hx : a.eval x = .slice (some ⟨g, 0, none⟩) 1 1) (hc : w.cell? ⟨g, 0, none⟩ = some (.int .u8 y))
    (hlen : xs.length ≤ 1000000) (hbase : base ≤ w.heap.size)
    (h : ∀ v' w', Own w' base v' (xs ++ [y]) → Pt w w' v v' → K (a.put o.dst v') w') :
    if Region.wanted o (yielded ops a.tmps) = true then Oper.wp P o a w K Q else E := by
  have hw : Region.wanted o (yielded ops a.tmps) = true := by simp [Region.wanted, hg]
  rw [if_pos hw]
  obtain ⟨v', w', hr, h2, h3, h4, h5⟩ := run_append_own_at (P := P) w base t o.type 5 i (.int .u8 0) 1 1 ht hi hz hsize hby rfl (by decide) v xs.length (bc xs) hown ⟨g, 0, none⟩ 1 1 [.int .u8 y] rfl (fun j u hj => by
    cases j with
    | zero => cases hj; exact hc
    | succ j => cases hj) (one_u8 _) (by unfold maxLen; omega) (by omega) hbase
  unfold Oper.wp
  simp [execOp, hop, resolve, invoke, builtin, hs, hx, hr, Result.andThen]
  refine h v' w' (Own.snoc h2) ⟨h3, ?_⟩
  rcases h5 with e | e
  · exact .inl e
  · exact .inr ⟨_, e, Nat.le_refl _⟩

section
variable {w : World} {base : Nat} {v : Value} {xs : List Int}
set_option maxRecDepth 100000
set_option maxHeartbeats 2000000

theorem putNumber_any (n : Int) (h : Own w base v xs) (hbase : base ≤ w.heap.size) (h0 : 0 ≤ n) (h1 : n ≤ 18446744073709551615) (hl : xs.length ≤ 1000000) :
    Calls Tryz.prog 145 #[v, .int .u64 n] w fun e w' => ∃ v', e = .returned v' ∧ Own w' base v' (xs ++ enc n) ∧ Pt w w' v v' := by
  obtain ⟨i0, hi, hz0, hz1, hz2⟩ := info_parts Tryz.infoU8
  have hel := enc_len n
  go_enter Tryz.func145, Tryz.ntmps145
  go_wp2_with fail
  refine (put_any none 0 0 [] n w (Sl.nil w) h0 h1 (by omega)).mono ?_
  rintro e w2 ⟨v2, rfl, hown2, hb2⟩
  rw [List.nil_append] at hown2
  replace hown2 : Own w2 w.heap.size v2 (enc n) := hown2
  have hown1 : Own w2 base v xs := h.keep hb2
  obtain ⟨a2, l2, c2, rfl, hsl2, _⟩ := hown2.sl' (enc_byt n h0)
  have hl2 := hsl2.1
  have hs2 : base ≤ w2.heap.size := Nat.le_trans hbase hb2.size
  have hbb : Pt w w2 v v := .below hb2
  clear hown2 hb2 h
  go_wp2_with (first | (at_builtin; refine wpList_append_pt rfl _ _ 82 rfl base i0 Tryz.underlying82 hi hz0 hz1 hz2 v xs rfl hown1 a2 l2 c2 (enc n) rfl hsl2 (by omega) hs2 ?_) | fail)
  intro v3 w3 hown3 hb3
  have hb4 := hbb.trans hb3
  clear hbb hb3 hown1 hsl2 hs2
  go_wp2
  go_ret
  exact ⟨_, rfl, hown3, hb4⟩

theorem putText2_any (s : ByteArray) (h : Own w base v xs) (hbase : base ≤ w.heap.size) (hs : s.size ≤ 1000) (hl : xs.length ≤ 1000000) :
    Calls Tryz.prog 95 #[v, .string s] w fun e w' => ∃ v', e = .returned v' ∧ Own w' base v' (xs ++ tx s) ∧ Pt w w' v v' := by
  obtain ⟨i0, hi, hz0, hz1, hz2⟩ := info_parts Tryz.infoU8
  have hel := tx_len s
  go_enter Tryz.func95, Tryz.ntmps95
  go_wp2_with fail
  refine (putText_any none 0 0 [] s w (Sl.nil w) (by omega)).mono ?_
  rintro e w2 ⟨v2, rfl, hown2, hb2⟩
  rw [List.nil_append] at hown2
  replace hown2 : Own w2 w.heap.size v2 (tx s) := hown2
  have hown1 : Own w2 base v xs := h.keep hb2
  obtain ⟨a2, l2, c2, rfl, hsl2, _⟩ := hown2.sl' (tx_byt s)
  have hl2 := hsl2.1
  have hs2 : base ≤ w2.heap.size := Nat.le_trans hbase hb2.size
  have hbb : Pt w w2 v v := .below hb2
  clear hown2 hb2 h
  go_wp2_with (first | (at_builtin; refine wpList_append_pt rfl _ _ 82 rfl base i0 Tryz.underlying82 hi hz0 hz1 hz2 v xs rfl hown1 a2 l2 c2 (tx s) rfl hsl2 (by omega) hs2 ?_) | fail)
  intro v3 w3 hown3 hb3
  have hb4 := hbb.trans hb3
  clear hbb hb3 hown1 hsl2 hs2
  go_wp2
  go_ret
  exact ⟨_, rfl, hown3, hb4⟩

theorem putTime_any (n : Int) (h : Own w base v xs) (hbase : base ≤ w.heap.size) (h0 : 0 ≤ n) (h1 : n ≤ 1099511627775) (hl : xs.length ≤ 1000000) :
    Calls Tryz.prog 94 #[v, .int .i64 n] w fun e w' => ∃ v', e = .returned v' ∧ Own w' base v' (xs ++ enc n) ∧ Pt w w' v v' := by
  have h63 : n ≤ 9223372036854775807 := by omega
  have hp := putNumber_any n h hbase h0 (by omega) hl
  have HP := ehide3 hp
  clear hp h
  go_enter Tryz.func94, Tryz.ntmps94
  go_wp2_with fail
  refine HP.out.mono ?_
  rintro e w2 ⟨v2, rfl, ho, hb⟩
  go_wp2
  go_ret
  exact ⟨_, rfl, ho, hb⟩
end
end Go.Proofs.YthfcjfhaoabdeaaGreatDoor

/-
  The functions in fields that put a row, a gone, a write, a pair.
-/
set_option linter.unusedVariables false
set_option linter.unusedSimpArgs false
namespace Go.Proofs.YthfcjfhaoabdeaaGreatDoor
open Go.RowKit Go.Maps

section
variable {w : World} {base : Nat} {v : Value} {xs : List Int}
set_option maxRecDepth 100000
set_option maxHeartbeats 4000000

theorem putRow_any (r : Rw) (h : Own w base v xs) (hbase : base ≤ w.heap.size) (hr : rightR r = true) (hl : xs.length ≤ 900000) :
    Calls Tryz.prog 93 #[v, r.v] w fun e w' => ∃ v', e = .returned v' ∧ Own w' base v' (xs ++ (tx r.key ++ (tx r.val ++ enc r.time))) ∧ Pt w w' v v' := by
  obtain ⟨i0, hi, hz0, hz1, hz2⟩ := info_parts Tryz.infoU8
  have hk : r.key.size ≤ 16 ∧ r.val.size ≤ 64 ∧ 0 ≤ r.time ∧ r.time ≤ 1099511627775 := by
    simp only [rightR, isK, isV, isT, Bool.and_eq_true, decide_eq_true_eq] at hr
    omega
  obtain ⟨hk1, hk2, ht0, ht1⟩ := hk
  have htl := tx_len r.key
  have htl2 := tx_len r.val
  unfold Rw.v
  have hblk : (w.alloc (.cells #[.string r.key, .string r.val, .int .i64 r.time] 33)).drew.heap[w.heap.size]? = some (.cells #[.string r.key, .string r.val, .int .i64 r.time] 33 (0, 0)) := heap_alloc_new w _
  have hy0' : w.heap.size < (w.alloc (.cells #[.string r.key, .string r.val, .int .i64 r.time] 33)).drew.heap.size := by simp [World.drew]
  have ho0' : Own (w.alloc (.cells #[.string r.key, .string r.val, .int .i64 r.time] 33)).drew base v xs := h.alloc _
  have q0' : Pt w (w.alloc (.cells #[.string r.key, .string r.val, .int .i64 r.time] 33)).drew v v := (Pt.alloc w v _).drew
  have hne0' : some w.heap.size ≠ v.ownBlock := h.ne
  clear h
  go_enter Tryz.func93, Tryz.ntmps93
  go_wp2
  refine wp_region_noPanic ?_
  refine wp_region_held_drew (S := fun u => u.heap[w.heap.size]? = some (.cells #[.string r.key, .string r.val, .int .i64 r.time] 33 (0, 0))) (by kernel_rfl) (hblk) (fun hHeld => ?_)
  generalize (w.alloc (.cells #[.string r.key, .string r.val, .int .i64 r.time] 33)).drew = w0 at hblk hy0' ho0' q0' hHeld ⊢
  have hy0 := hy0'
  have ho0 := ho0'
  have q0 := q0'
  have hne0 := hne0'
  obtain ⟨v0, rfl⟩ : ∃ x, x = v := ⟨_, rfl⟩
  clear hy0' ho0' q0' hne0' hblk
  refine wpAnyH_take (i := 0) (oi := { dst := some 5, op := _, type := _, pos := _, after := _, guard := _ }) (v := ?_) rfl (by kernel_rfl) (by kernel_rfl) (by kernel_rfl) (fun _ _ _ h => h) (Or.inl ⟨by rfl, ?_⟩) (by assumption) ?_
  rotate_left 1
  · intro u s1; have k0 : u.cell? ⟨w.heap.size, 0, none⟩ = some (.string r.key) := (by rw [Go.Joins.cell_of_block s1]; rfl); have k1 : u.cell? ⟨w.heap.size, 1, none⟩ = some (.string r.val) := (by rw [Go.Joins.cell_of_block s1]; rfl); have k2 : u.cell? ⟨w.heap.size, 2, none⟩ = some (.int .i64 r.time) := (by rw [Go.Joins.cell_of_block s1]; rfl); go_simp; try with_reducible rfl
  try simp only [Act.put, List.setIfInBounds_toArray, List.set_cons_zero, List.set_cons_succ]
  refine wpAnyH_take (i := 1) (oi := { dst := some 6, op := _, type := _, pos := _, after := _, guard := _ }) (v := ?_) rfl (by kernel_rfl) (by kernel_rfl) (by kernel_rfl) (fun _ _ _ h => h) (Or.inl ⟨by rfl, ?_⟩) (by assumption) ?_
  rotate_left 1
  · intro u s1; have k0 : u.cell? ⟨w.heap.size, 0, none⟩ = some (.string r.key) := (by rw [Go.Joins.cell_of_block s1]; rfl); have k1 : u.cell? ⟨w.heap.size, 1, none⟩ = some (.string r.val) := (by rw [Go.Joins.cell_of_block s1]; rfl); have k2 : u.cell? ⟨w.heap.size, 2, none⟩ = some (.int .i64 r.time) := (by rw [Go.Joins.cell_of_block s1]; rfl); go_simp; try with_reducible rfl
  try simp only [Act.put, List.setIfInBounds_toArray, List.set_cons_zero, List.set_cons_succ]
  refine wpAnyH_take (i := 2) (oi := { dst := some 7, op := _, type := _, pos := _, after := _, guard := _ }) (v := ?_) rfl (by kernel_rfl) (by kernel_rfl) (by kernel_rfl) (fun _ _ _ h => h) (Or.inl ⟨by rfl, ?_⟩) (by assumption) ?_
  rotate_left 1
  · intro u s1; have k0 : u.cell? ⟨w.heap.size, 0, none⟩ = some (.string r.key) := (by rw [Go.Joins.cell_of_block s1]; rfl); have k1 : u.cell? ⟨w.heap.size, 1, none⟩ = some (.string r.val) := (by rw [Go.Joins.cell_of_block s1]; rfl); have k2 : u.cell? ⟨w.heap.size, 2, none⟩ = some (.int .i64 r.time) := (by rw [Go.Joins.cell_of_block s1]; rfl); go_simp; try with_reducible rfl
  try simp only [Act.put, List.setIfInBounds_toArray, List.set_cons_zero, List.set_cons_succ]
  refine wpAnyH_take (i := 4) (oi := { dst := some 9, op := _, type := _, pos := _, after := _, guard := _ }) (v := ?_) rfl (by kernel_rfl) (by kernel_rfl) (by kernel_rfl) (fun _ _ _ h => h) (Or.inl ⟨by rfl, ?_⟩) (by assumption) ?_
  rotate_left 1
  · intro u s1; have k0 : u.cell? ⟨w.heap.size, 0, none⟩ = some (.string r.key) := (by rw [Go.Joins.cell_of_block s1]; rfl); have k1 : u.cell? ⟨w.heap.size, 1, none⟩ = some (.string r.val) := (by rw [Go.Joins.cell_of_block s1]; rfl); have k2 : u.cell? ⟨w.heap.size, 2, none⟩ = some (.int .i64 r.time) := (by rw [Go.Joins.cell_of_block s1]; rfl); go_simp; try with_reducible rfl
  try simp only [Act.put, List.setIfInBounds_toArray, List.set_cons_zero, List.set_cons_succ]
  refine wpAnyH_take (i := 5) (oi := { dst := some 10, op := _, type := _, pos := _, after := _, guard := _ }) (v := ?_) rfl (by kernel_rfl) (by kernel_rfl) (by kernel_rfl) (fun _ _ _ h => h) (Or.inl ⟨by rfl, ?_⟩) (by assumption) ?_
  rotate_left 1
  · intro u s1; have k0 : u.cell? ⟨w.heap.size, 0, none⟩ = some (.string r.key) := (by rw [Go.Joins.cell_of_block s1]; rfl); have k1 : u.cell? ⟨w.heap.size, 1, none⟩ = some (.string r.val) := (by rw [Go.Joins.cell_of_block s1]; rfl); have k2 : u.cell? ⟨w.heap.size, 2, none⟩ = some (.int .i64 r.time) := (by rw [Go.Joins.cell_of_block s1]; rfl); go_simp; try with_reducible rfl
  try simp only [Act.put, List.setIfInBounds_toArray, List.set_cons_zero, List.set_cons_succ]
  refine wpAnyH_take (i := 7) (oi := { dst := some 12, op := _, type := _, pos := _, after := _, guard := _ }) (v := ?_) rfl (by kernel_rfl) (by kernel_rfl) (by kernel_rfl) (fun _ _ _ h => h) (Or.inl ⟨by rfl, ?_⟩) (by assumption) ?_
  rotate_left 1
  · intro u s1; have k0 : u.cell? ⟨w.heap.size, 0, none⟩ = some (.string r.key) := (by rw [Go.Joins.cell_of_block s1]; rfl); have k1 : u.cell? ⟨w.heap.size, 1, none⟩ = some (.string r.val) := (by rw [Go.Joins.cell_of_block s1]; rfl); have k2 : u.cell? ⟨w.heap.size, 2, none⟩ = some (.int .i64 r.time) := (by rw [Go.Joins.cell_of_block s1]; rfl); go_simp; try with_reducible rfl
  try simp only [Act.put, List.setIfInBounds_toArray, List.set_cons_zero, List.set_cons_succ]
  refine wpAnyH_take (i := 8) (oi := { dst := some 13, op := _, type := _, pos := _, after := _, guard := _ }) (v := ?_) rfl (by kernel_rfl) (by kernel_rfl) (by kernel_rfl) (fun _ _ _ h => h) (Or.inl ⟨by rfl, ?_⟩) (by assumption) ?_
  rotate_left 1
  · intro u s1; have k0 : u.cell? ⟨w.heap.size, 0, none⟩ = some (.string r.key) := (by rw [Go.Joins.cell_of_block s1]; rfl); have k1 : u.cell? ⟨w.heap.size, 1, none⟩ = some (.string r.val) := (by rw [Go.Joins.cell_of_block s1]; rfl); have k2 : u.cell? ⟨w.heap.size, 2, none⟩ = some (.int .i64 r.time) := (by rw [Go.Joins.cell_of_block s1]; rfl); go_simp; try with_reducible rfl
  try simp only [Act.put, List.setIfInBounds_toArray, List.set_cons_zero, List.set_cons_succ]
  refine wpAnyH_ready (rs := [3]) (by kernel_rfl) (by simp) ?_
  refine AllReadyH.cons (o := { dst := some 8, op := _, type := _, pos := _, after := _, guard := _ }) rfl (fun K hK => ?_) ?_
  · go_simp
    refine (putText2_any r.key ho0 (by have := q0.g.size; omega) (by omega) (by omega)).mono ?_
    rintro e w1 ⟨v1, rfl, ho1, p1⟩
    go_wp2_with fail
    have hk1 := p1.block (k := w.heap.size) hy0 hne0
    have hne1 := hk1.2
    have q1 := q0.trans p1
    have hy1 : w.heap.size < w1.heap.size := Nat.lt_of_lt_of_le hy0 p1.g.size
    refine hK.out _ _ (hk1.1.trans hHeld) (fun hHeld => ?_)
    clear hK K
    try simp only [Act.put, List.setIfInBounds_toArray, List.set_cons_zero, List.set_cons_succ]
    refine wpAnyH_ready (rs := [6]) (by kernel_rfl) (by simp) ?_
    refine AllReadyH.cons (o := { dst := some 11, op := _, type := _, pos := _, after := _, guard := _ }) rfl (fun K hK => ?_) ?_
    · go_simp
      refine (putText2_any r.val ho1 (by have := q1.g.size; omega) (by omega) (by simp; omega)).mono ?_
      rintro e w2 ⟨v2, rfl, ho2, p2⟩
      go_wp2_with fail
      have hk2 := p2.block (k := w.heap.size) hy1 hne1
      have hne2 := hk2.2
      have q2 := q1.trans p2
      have hy2 : w.heap.size < w2.heap.size := Nat.lt_of_lt_of_le hy1 p2.g.size
      refine hK.out _ _ (hk2.1.trans hHeld) (fun hHeld => ?_)
      clear hK K
      try simp only [Act.put, List.setIfInBounds_toArray, List.set_cons_zero, List.set_cons_succ]
      refine wpAnyH_ready (rs := [9]) (by kernel_rfl) (by simp) ?_
      refine AllReadyH.cons (o := { dst := some 14, op := _, type := _, pos := _, after := _, guard := _ }) rfl (fun K hK => ?_) ?_
      · go_simp
        refine (putTime_any r.time ho2 (by have := q2.g.size; omega) ht0 ht1 (by simp; omega)).mono ?_
        rintro e w3 ⟨v3, rfl, ho3, p3⟩
        go_wp2_with fail
        have hk3 := p3.block (k := w.heap.size) hy2 hne2
        have hne3 := hk3.2
        have q3 := q2.trans p3
        have hy3 : w.heap.size < w3.heap.size := Nat.lt_of_lt_of_le hy2 p3.g.size
        refine hK.out _ _ (hk3.1.trans hHeld) (fun hHeld => ?_)
        clear hK K
        try simp only [Act.put, List.setIfInBounds_toArray, List.set_cons_zero, List.set_cons_succ]
        refine wpAnyH_take (i := 10) (oi := { dst := some 4, op := _, type := _, pos := _, after := _, guard := _ }) (v := ?_) rfl (by kernel_rfl) (by kernel_rfl) (by kernel_rfl) (fun _ _ _ h => h) (Or.inl ⟨by rfl, ?_⟩) (by assumption) ?_
        rotate_left 1
        · intro u s1; have k0 : u.cell? ⟨w.heap.size, 0, none⟩ = some (.string r.key) := (by rw [Go.Joins.cell_of_block s1]; rfl); have k1 : u.cell? ⟨w.heap.size, 1, none⟩ = some (.string r.val) := (by rw [Go.Joins.cell_of_block s1]; rfl); have k2 : u.cell? ⟨w.heap.size, 2, none⟩ = some (.int .i64 r.time) := (by rw [Go.Joins.cell_of_block s1]; rfl); go_simp; try with_reducible rfl
        try simp only [Act.put, List.setIfInBounds_toArray, List.set_cons_zero, List.set_cons_succ]
        refine wpAnyH_done (by kernel_rfl) ?_ _
        refine NoPanic.normal ?_
        go_wp2
        go_ret
        exact ⟨_, rfl, by simpa [List.append_assoc] using ho3, q3⟩
      exact AllReadyH.nil
    exact AllReadyH.nil
  exact AllReadyH.nil

theorem putWriteG_any (x : Wr) (h : Own w base v xs) (hbase : base ≤ w.heap.size) (hr : okW x = true) (hg : x.gone = true) (hl : xs.length ≤ 900000) :
    Calls Tryz.prog 150 #[v, x.v] w fun e w' => ∃ v', e = .returned v' ∧ Own w' base v' (xs ++ wb x) ∧ Pt w w' v v' := by
  obtain ⟨i0, hi, hz0, hz1, hz2⟩ := info_parts Tryz.infoU8
  obtain ⟨kk, vv, gg⟩ := x
  obtain rfl : gg = true := hg
  have hk : kk.size ≤ 16 ∧ vv.size ≤ 64 := by
    simp only [okW, isK, isV, Bool.and_eq_true, decide_eq_true_eq] at hr
    omega
  obtain ⟨hk1, hk2⟩ := hk
  have htl := tx_len kk
  have htl2 := tx_len vv
  unfold Wr.v wb
  have hblk : (w.alloc (.cells #[.string kk, .string vv, .bool true] 37)).drew.heap[w.heap.size]? = some (.cells #[.string kk, .string vv, .bool true] 37 (0, 0)) := heap_alloc_new w _
  have hy0' : w.heap.size < (w.alloc (.cells #[.string kk, .string vv, .bool true] 37)).drew.heap.size := by simp [World.drew]
  have ho0' : Own (w.alloc (.cells #[.string kk, .string vv, .bool true] 37)).drew base v xs := h.alloc _
  have q0' : Pt w (w.alloc (.cells #[.string kk, .string vv, .bool true] 37)).drew v v := (Pt.alloc w v _).drew
  have hne0' : some w.heap.size ≠ v.ownBlock := h.ne
  clear h
  go_enter Tryz.func150, Tryz.ntmps150
  go_wp2
  refine wp_region_noPanic ?_
  refine wp_region_held_drew (S := fun u => u.heap[w.heap.size]? = some (.cells #[.string kk, .string vv, .bool true] 37 (0, 0))) (by kernel_rfl) (hblk) (fun hHeld => ?_)
  generalize (w.alloc (.cells #[.string kk, .string vv, .bool true] 37)).drew = w0 at hblk hy0' ho0' q0' hHeld ⊢
  have hy0 := hy0'
  have ho0 := ho0'
  have q0 := q0'
  have hne0 := hne0'
  obtain ⟨v0, rfl⟩ : ∃ x, x = v := ⟨_, rfl⟩
  clear hy0' ho0' q0' hne0' hblk
  refine wpAnyH_take (i := 0) (oi := { dst := some 7, op := _, type := _, pos := _, after := _, guard := _ }) (v := ?_) rfl (by kernel_rfl) (by kernel_rfl) (by kernel_rfl) (fun _ _ _ h => h) (Or.inl ⟨by rfl, ?_⟩) (by assumption) ?_
  rotate_left 1
  · intro u s1; have k0 : u.cell? ⟨w.heap.size, 0, none⟩ = some (.string kk) := (by rw [Go.Joins.cell_of_block s1]; rfl); have k1 : u.cell? ⟨w.heap.size, 1, none⟩ = some (.string vv) := (by rw [Go.Joins.cell_of_block s1]; rfl); have k2 : u.cell? ⟨w.heap.size, 2, none⟩ = some (.bool true) := (by rw [Go.Joins.cell_of_block s1]; rfl); go_simp; try with_reducible rfl
  try simp only [Act.put, List.setIfInBounds_toArray, List.set_cons_zero, List.set_cons_succ]
  refine wpAnyH_take (i := 3) (oi := { dst := some 10, op := _, type := _, pos := _, after := _, guard := _ }) (v := ?_) rfl (by kernel_rfl) (by kernel_rfl) (by kernel_rfl) (fun _ _ _ h => h) (Or.inl ⟨by rfl, ?_⟩) (by assumption) ?_
  rotate_left 1
  · intro u s1; have k0 : u.cell? ⟨w.heap.size, 0, none⟩ = some (.string kk) := (by rw [Go.Joins.cell_of_block s1]; rfl); have k1 : u.cell? ⟨w.heap.size, 1, none⟩ = some (.string vv) := (by rw [Go.Joins.cell_of_block s1]; rfl); have k2 : u.cell? ⟨w.heap.size, 2, none⟩ = some (.bool true) := (by rw [Go.Joins.cell_of_block s1]; rfl); go_simp; try with_reducible rfl
  try simp only [Act.put, List.setIfInBounds_toArray, List.set_cons_zero, List.set_cons_succ]
  refine wpAnyH_take (i := 4) (oi := { dst := some 11, op := _, type := _, pos := _, after := _, guard := _ }) (v := ?_) rfl (by kernel_rfl) (by kernel_rfl) (by kernel_rfl) (fun _ _ _ h => h) (Or.inl ⟨by rfl, ?_⟩) (by assumption) ?_
  rotate_left 1
  · intro u s1; have k0 : u.cell? ⟨w.heap.size, 0, none⟩ = some (.string kk) := (by rw [Go.Joins.cell_of_block s1]; rfl); have k1 : u.cell? ⟨w.heap.size, 1, none⟩ = some (.string vv) := (by rw [Go.Joins.cell_of_block s1]; rfl); have k2 : u.cell? ⟨w.heap.size, 2, none⟩ = some (.bool true) := (by rw [Go.Joins.cell_of_block s1]; rfl); go_simp; try with_reducible rfl
  try simp only [Act.put, List.setIfInBounds_toArray, List.set_cons_zero, List.set_cons_succ]
  refine wpAnyH_ready (rs := [1]) (by kernel_rfl) (by simp) ?_
  refine AllReadyH.cons (o := { dst := some 8, op := _, type := _, pos := _, after := _, guard := _ }) rfl (fun K hK => ?_) ?_
  · go_simp
    have ho0' : Own (w0.alloc (.cells #[.int .u8 1] 5)) base v0 _ := World.ownsRow.alloc ho0 _
    have cmb := cell_byte w0 1
    have q0' : Pt w (w0.alloc (.cells #[.int .u8 1] 5)) v0 v0 := q0.trans (Pt.alloc w0 v0 _)
    have bz := hy0
    have hHeld' := (blk_alloc' w0 (.cells #[.int .u8 1] 5) w.heap.size bz).trans hHeld
    refine hK.out _ _ hHeld' (fun hHeld => ?_)
    clear hK K
    try simp only [Act.put, List.setIfInBounds_toArray, List.set_cons_zero, List.set_cons_succ]
    refine wpAnyH_ready (rs := [2]) (by kernel_rfl) (by simp) ?_
    refine AllReadyH.cons (o := { dst := some 9, op := _, type := _, pos := _, after := _, guard := _ }) rfl (fun K hK => ?_) ?_
    · refine step_append_byte (by rfl) _ _ _ (by rfl) base i0 Tryz.underlying82 hi hz0 hz1 hz2 v0 _ (by rfl) ho0' w0.heap.size 1 (by rfl) cmb (by first | omega | (simp; omega)) (by have := q0'.g.size; omega) ?_
      intro v1 w1 ho1 p1
      have hk1 := p1.block (k := w.heap.size) (by simp; omega) hne0
      have hne1 := hk1.2
      have q1 := q0'.trans p1
      have hy1 : w.heap.size < w1.heap.size := Nat.lt_of_lt_of_le hy0 (Nat.le_trans (by simp) p1.g.size)
      refine hK.out _ _ (hk1.1.trans hHeld) (fun hHeld => ?_)
      clear hK K
      try simp only [Act.put, List.setIfInBounds_toArray, List.set_cons_zero, List.set_cons_succ]
      refine wpAnyH_ready (rs := [5]) (by kernel_rfl) (by simp) ?_
      refine AllReadyH.cons (o := { dst := some 12, op := _, type := _, pos := _, after := _, guard := _ }) rfl (fun K hK => ?_) ?_
      · go_simp
        refine (putText2_any kk ho1 (by have := q1.g.size; omega) (by omega) (by simp; omega)).mono ?_
        rintro e w2 ⟨v2, rfl, ho2, p2⟩
        go_wp2_with fail
        have hk2 := p2.block (k := w.heap.size) hy1 hne1
        have hne2 := hk2.2
        have q2 := q1.trans p2
        have hy2 : w.heap.size < w2.heap.size := Nat.lt_of_lt_of_le hy1 p2.g.size
        refine hK.out _ _ (hk2.1.trans hHeld) (fun hHeld => ?_)
        clear hK K
        try simp only [Act.put, List.setIfInBounds_toArray, List.set_cons_zero, List.set_cons_succ]
        refine wpAnyH_take (i := 6) (oi := { dst := some 4, op := _, type := _, pos := _, after := _, guard := _ }) (v := ?_) rfl (by kernel_rfl) (by kernel_rfl) (by kernel_rfl) (fun _ _ _ h => h) (Or.inl ⟨by rfl, ?_⟩) (by assumption) ?_
        rotate_left 1
        · intro u s1; have k0 : u.cell? ⟨w.heap.size, 0, none⟩ = some (.string kk) := (by rw [Go.Joins.cell_of_block s1]; rfl); have k1 : u.cell? ⟨w.heap.size, 1, none⟩ = some (.string vv) := (by rw [Go.Joins.cell_of_block s1]; rfl); have k2 : u.cell? ⟨w.heap.size, 2, none⟩ = some (.bool true) := (by rw [Go.Joins.cell_of_block s1]; rfl); go_simp; try with_reducible rfl
        try simp only [Act.put, List.setIfInBounds_toArray, List.set_cons_zero, List.set_cons_succ]
        refine wpAnyH_done (by kernel_rfl) ?_ _
        refine NoPanic.normal ?_
        go_wp2
        go_ret
        exact ⟨_, rfl, by simpa [List.append_assoc] using ho2, q2⟩
      exact AllReadyH.nil
    exact AllReadyH.nil
  exact AllReadyH.nil

theorem putWriteV_any (x : Wr) (h : Own w base v xs) (hbase : base ≤ w.heap.size) (hr : okW x = true) (hg : x.gone = false) (hl : xs.length ≤ 900000) :
    Calls Tryz.prog 150 #[v, x.v] w fun e w' => ∃ v', e = .returned v' ∧ Own w' base v' (xs ++ wb x) ∧ Pt w w' v v' := by
  obtain ⟨i0, hi, hz0, hz1, hz2⟩ := info_parts Tryz.infoU8
  obtain ⟨kk, vv, gg⟩ := x
  obtain rfl : gg = false := hg
  have hk : kk.size ≤ 16 ∧ vv.size ≤ 64 := by
    simp only [okW, isK, isV, Bool.and_eq_true, decide_eq_true_eq] at hr
    omega
  obtain ⟨hk1, hk2⟩ := hk
  have htl := tx_len kk
  have htl2 := tx_len vv
  unfold Wr.v wb
  have hblk : (w.alloc (.cells #[.string kk, .string vv, .bool false] 37)).drew.heap[w.heap.size]? = some (.cells #[.string kk, .string vv, .bool false] 37 (0, 0)) := heap_alloc_new w _
  have hy0' : w.heap.size < (w.alloc (.cells #[.string kk, .string vv, .bool false] 37)).drew.heap.size := by simp [World.drew]
  have ho0' : Own (w.alloc (.cells #[.string kk, .string vv, .bool false] 37)).drew base v xs := h.alloc _
  have q0' : Pt w (w.alloc (.cells #[.string kk, .string vv, .bool false] 37)).drew v v := (Pt.alloc w v _).drew
  have hne0' : some w.heap.size ≠ v.ownBlock := h.ne
  clear h
  go_enter Tryz.func150, Tryz.ntmps150
  go_wp2
  refine wp_region_noPanic ?_
  refine wp_region_held_drew (S := fun u => u.heap[w.heap.size]? = some (.cells #[.string kk, .string vv, .bool false] 37 (0, 0))) (by kernel_rfl) (hblk) (fun hHeld => ?_)
  generalize (w.alloc (.cells #[.string kk, .string vv, .bool false] 37)).drew = w0 at hblk hy0' ho0' q0' hHeld ⊢
  have hy0 := hy0'
  have ho0 := ho0'
  have q0 := q0'
  have hne0 := hne0'
  obtain ⟨v0, rfl⟩ : ∃ x, x = v := ⟨_, rfl⟩
  clear hy0' ho0' q0' hne0' hblk
  refine wpAnyH_take (i := 0) (oi := { dst := some 13, op := _, type := _, pos := _, after := _, guard := _ }) (v := ?_) rfl (by kernel_rfl) (by kernel_rfl) (by kernel_rfl) (fun _ _ _ h => h) (Or.inl ⟨by rfl, ?_⟩) (by assumption) ?_
  rotate_left 1
  · intro u s1; have k0 : u.cell? ⟨w.heap.size, 0, none⟩ = some (.string kk) := (by rw [Go.Joins.cell_of_block s1]; rfl); have k1 : u.cell? ⟨w.heap.size, 1, none⟩ = some (.string vv) := (by rw [Go.Joins.cell_of_block s1]; rfl); have k2 : u.cell? ⟨w.heap.size, 2, none⟩ = some (.bool false) := (by rw [Go.Joins.cell_of_block s1]; rfl); go_simp; try with_reducible rfl
  try simp only [Act.put, List.setIfInBounds_toArray, List.set_cons_zero, List.set_cons_succ]
  refine wpAnyH_take (i := 3) (oi := { dst := some 16, op := _, type := _, pos := _, after := _, guard := _ }) (v := ?_) rfl (by kernel_rfl) (by kernel_rfl) (by kernel_rfl) (fun _ _ _ h => h) (Or.inl ⟨by rfl, ?_⟩) (by assumption) ?_
  rotate_left 1
  · intro u s1; have k0 : u.cell? ⟨w.heap.size, 0, none⟩ = some (.string kk) := (by rw [Go.Joins.cell_of_block s1]; rfl); have k1 : u.cell? ⟨w.heap.size, 1, none⟩ = some (.string vv) := (by rw [Go.Joins.cell_of_block s1]; rfl); have k2 : u.cell? ⟨w.heap.size, 2, none⟩ = some (.bool false) := (by rw [Go.Joins.cell_of_block s1]; rfl); go_simp; try with_reducible rfl
  try simp only [Act.put, List.setIfInBounds_toArray, List.set_cons_zero, List.set_cons_succ]
  refine wpAnyH_take (i := 4) (oi := { dst := some 17, op := _, type := _, pos := _, after := _, guard := _ }) (v := ?_) rfl (by kernel_rfl) (by kernel_rfl) (by kernel_rfl) (fun _ _ _ h => h) (Or.inl ⟨by rfl, ?_⟩) (by assumption) ?_
  rotate_left 1
  · intro u s1; have k0 : u.cell? ⟨w.heap.size, 0, none⟩ = some (.string kk) := (by rw [Go.Joins.cell_of_block s1]; rfl); have k1 : u.cell? ⟨w.heap.size, 1, none⟩ = some (.string vv) := (by rw [Go.Joins.cell_of_block s1]; rfl); have k2 : u.cell? ⟨w.heap.size, 2, none⟩ = some (.bool false) := (by rw [Go.Joins.cell_of_block s1]; rfl); go_simp; try with_reducible rfl
  try simp only [Act.put, List.setIfInBounds_toArray, List.set_cons_zero, List.set_cons_succ]
  refine wpAnyH_take (i := 6) (oi := { dst := some 19, op := _, type := _, pos := _, after := _, guard := _ }) (v := ?_) rfl (by kernel_rfl) (by kernel_rfl) (by kernel_rfl) (fun _ _ _ h => h) (Or.inl ⟨by rfl, ?_⟩) (by assumption) ?_
  rotate_left 1
  · intro u s1; have k0 : u.cell? ⟨w.heap.size, 0, none⟩ = some (.string kk) := (by rw [Go.Joins.cell_of_block s1]; rfl); have k1 : u.cell? ⟨w.heap.size, 1, none⟩ = some (.string vv) := (by rw [Go.Joins.cell_of_block s1]; rfl); have k2 : u.cell? ⟨w.heap.size, 2, none⟩ = some (.bool false) := (by rw [Go.Joins.cell_of_block s1]; rfl); go_simp; try with_reducible rfl
  try simp only [Act.put, List.setIfInBounds_toArray, List.set_cons_zero, List.set_cons_succ]
  refine wpAnyH_take (i := 7) (oi := { dst := some 20, op := _, type := _, pos := _, after := _, guard := _ }) (v := ?_) rfl (by kernel_rfl) (by kernel_rfl) (by kernel_rfl) (fun _ _ _ h => h) (Or.inl ⟨by rfl, ?_⟩) (by assumption) ?_
  rotate_left 1
  · intro u s1; have k0 : u.cell? ⟨w.heap.size, 0, none⟩ = some (.string kk) := (by rw [Go.Joins.cell_of_block s1]; rfl); have k1 : u.cell? ⟨w.heap.size, 1, none⟩ = some (.string vv) := (by rw [Go.Joins.cell_of_block s1]; rfl); have k2 : u.cell? ⟨w.heap.size, 2, none⟩ = some (.bool false) := (by rw [Go.Joins.cell_of_block s1]; rfl); go_simp; try with_reducible rfl
  try simp only [Act.put, List.setIfInBounds_toArray, List.set_cons_zero, List.set_cons_succ]
  refine wpAnyH_ready (rs := [1]) (by kernel_rfl) (by simp) ?_
  refine AllReadyH.cons (o := { dst := some 14, op := _, type := _, pos := _, after := _, guard := _ }) rfl (fun K hK => ?_) ?_
  · go_simp
    have ho0' : Own (w0.alloc (.cells #[.int .u8 0] 5)) base v0 _ := World.ownsRow.alloc ho0 _
    have cmb := cell_byte w0 0
    have q0' : Pt w (w0.alloc (.cells #[.int .u8 0] 5)) v0 v0 := q0.trans (Pt.alloc w0 v0 _)
    have bz := hy0
    have hHeld' := (blk_alloc' w0 (.cells #[.int .u8 0] 5) w.heap.size bz).trans hHeld
    refine hK.out _ _ hHeld' (fun hHeld => ?_)
    clear hK K
    try simp only [Act.put, List.setIfInBounds_toArray, List.set_cons_zero, List.set_cons_succ]
    refine wpAnyH_ready (rs := [2]) (by kernel_rfl) (by simp) ?_
    refine AllReadyH.cons (o := { dst := some 15, op := _, type := _, pos := _, after := _, guard := _ }) rfl (fun K hK => ?_) ?_
    · refine step_append_byte (by rfl) _ _ _ (by rfl) base i0 Tryz.underlying82 hi hz0 hz1 hz2 v0 _ (by rfl) ho0' w0.heap.size 0 (by rfl) cmb (by first | omega | (simp; omega)) (by have := q0'.g.size; omega) ?_
      intro v1 w1 ho1 p1
      have hk1 := p1.block (k := w.heap.size) (by simp; omega) hne0
      have hne1 := hk1.2
      have q1 := q0'.trans p1
      have hy1 : w.heap.size < w1.heap.size := Nat.lt_of_lt_of_le hy0 (Nat.le_trans (by simp) p1.g.size)
      refine hK.out _ _ (hk1.1.trans hHeld) (fun hHeld => ?_)
      clear hK K
      try simp only [Act.put, List.setIfInBounds_toArray, List.set_cons_zero, List.set_cons_succ]
      refine wpAnyH_ready (rs := [5]) (by kernel_rfl) (by simp) ?_
      refine AllReadyH.cons (o := { dst := some 18, op := _, type := _, pos := _, after := _, guard := _ }) rfl (fun K hK => ?_) ?_
      · go_simp
        refine (putText2_any kk ho1 (by have := q1.g.size; omega) (by omega) (by simp; omega)).mono ?_
        rintro e w2 ⟨v2, rfl, ho2, p2⟩
        go_wp2_with fail
        have hk2 := p2.block (k := w.heap.size) hy1 hne1
        have hne2 := hk2.2
        have q2 := q1.trans p2
        have hy2 : w.heap.size < w2.heap.size := Nat.lt_of_lt_of_le hy1 p2.g.size
        refine hK.out _ _ (hk2.1.trans hHeld) (fun hHeld => ?_)
        clear hK K
        try simp only [Act.put, List.setIfInBounds_toArray, List.set_cons_zero, List.set_cons_succ]
        refine wpAnyH_ready (rs := [8]) (by kernel_rfl) (by simp) ?_
        refine AllReadyH.cons (o := { dst := some 21, op := _, type := _, pos := _, after := _, guard := _ }) rfl (fun K hK => ?_) ?_
        · go_simp
          refine (putText2_any vv ho2 (by have := q2.g.size; omega) (by omega) (by simp; omega)).mono ?_
          rintro e w3 ⟨v3, rfl, ho3, p3⟩
          go_wp2_with fail
          have hk3 := p3.block (k := w.heap.size) hy2 hne2
          have hne3 := hk3.2
          have q3 := q2.trans p3
          have hy3 : w.heap.size < w3.heap.size := Nat.lt_of_lt_of_le hy2 p3.g.size
          refine hK.out _ _ (hk3.1.trans hHeld) (fun hHeld => ?_)
          clear hK K
          try simp only [Act.put, List.setIfInBounds_toArray, List.set_cons_zero, List.set_cons_succ]
          refine wpAnyH_take (i := 9) (oi := { dst := some 4, op := _, type := _, pos := _, after := _, guard := _ }) (v := ?_) rfl (by kernel_rfl) (by kernel_rfl) (by kernel_rfl) (fun _ _ _ h => h) (Or.inl ⟨by rfl, ?_⟩) (by assumption) ?_
          rotate_left 1
          · intro u s1; have k0 : u.cell? ⟨w.heap.size, 0, none⟩ = some (.string kk) := (by rw [Go.Joins.cell_of_block s1]; rfl); have k1 : u.cell? ⟨w.heap.size, 1, none⟩ = some (.string vv) := (by rw [Go.Joins.cell_of_block s1]; rfl); have k2 : u.cell? ⟨w.heap.size, 2, none⟩ = some (.bool false) := (by rw [Go.Joins.cell_of_block s1]; rfl); go_simp; try with_reducible rfl
          try simp only [Act.put, List.setIfInBounds_toArray, List.set_cons_zero, List.set_cons_succ]
          refine wpAnyH_done (by kernel_rfl) ?_ _
          refine NoPanic.normal ?_
          go_wp2
          go_ret
          exact ⟨_, rfl, by simpa [List.append_assoc] using ho3, q3⟩
        exact AllReadyH.nil
      exact AllReadyH.nil
    exact AllReadyH.nil
  exact AllReadyH.nil
end
end Go.Proofs.YthfcjfhaoabdeaaGreatDoor

/-
  How the program puts lists.
-/
set_option linter.unusedVariables false
set_option linter.unusedSimpArgs false
namespace Go.Proofs.YthfcjfhaoabdeaaGreatDoor
open Go.RowKit Go.Maps

theorem enter_writes1 : ∀ args w, (callFunc 150 args).run Tryz.prog w = .ok (.enter 150 args) w := enters_of Tryz.func150 (by kernel_rfl) rfl
/-- What 'writes' and 'pairs' answer. -/
def writesV : Value := .agg #[.int .i64 64, .func (.func 150) #[] #[], .func (.func 151) #[] #[]]
theorem take_flat {α : Type} (f : α → List Int) {l : List α} {k : Nat} {x : α} (h : l[k]? = some x) : (l.take (k + 1)).flatMap f = (l.take k).flatMap f ++ f x := by
  rw [List.take_add_one, h]
  simp
theorem putWrite_any {w : World} {base : Nat} {v : Value} {xs : List Int} (x : Wr) (h : Own w base v xs) (hbase : base ≤ w.heap.size) (hr : okW x = true) (hl : xs.length ≤ 900000) :
    Calls Tryz.prog 150 #[v, x.v] w fun e w' => ∃ v', e = .returned v' ∧ Own w' base v' (xs ++ wb x) ∧ Pt w w' v v' := by
  cases hg : x.gone with
  | true => exact putWriteG_any x h hbase hr hg hl
  | false => exact putWriteV_any x h hbase hr hg hl

section
variable {w : World} {base : Nat} {v : Value} {xs : List Int}
set_option maxRecDepth 100000
set_option maxHeartbeats 4000000

theorem writes_any : Calls Tryz.prog 102 #[] w fun e w' => e = .returned writesV ∧ Below w.heap.size w w' := by
  have hb : Below w.heap.size w (w.alloc (.cells #[.int .i64 64, .func (.func 150) #[] #[], .func (.func 151) #[] #[]] 175)) := (Below.refl _ _).alloc (Nat.le_refl _) _
  go_enter Tryz.func102, Tryz.ntmps102
  go_wp2
  refine bodyPost_ret (v := writesV) (by simp [results, Tryz.results102, go_sem, writesV]) rfl ⟨rfl, hb⟩
theorem putWrites_any {ao : Option Addr} {len cap : Nat} {ls : List Wr} (h : Own w base v xs) (hbase : base ≤ w.heap.size) (hs : Seq 3 Wr.cells w ao len cap ls) (hlow : 0 < len → ∀ b off, ao = some ⟨b, off, none⟩ → b < base) (hok : ∀ x ∈ ls, okW x = true) (hn : len ≤ 64) (hl : xs.length ≤ 100000) :
    Calls Tryz.prog 101 #[v, .slice ao len cap, writesV] w fun e w' => ∃ v', e = .returned v' ∧ Own w' base v' (xs ++ (enc len ++ ls.flatMap wb)) ∧ Pt w w' v v' := by
  have hx := hs.1
  have hel := enc_len len
  have eg := enter_writes1
  have hblk : (w.alloc (.cells #[.int .i64 64, .func (.func 150) #[] #[], .func (.func 151) #[] #[]] 175)).heap[w.heap.size]? = some (.cells #[.int .i64 64, .func (.func 150) #[] #[], .func (.func 151) #[] #[]] 175 (0, 0)) := heap_alloc_new w _
  have hz0' : w.heap.size < (w.alloc (.cells #[.int .i64 64, .func (.func 150) #[] #[], .func (.func 151) #[] #[]] 175)).heap.size := by simp
  have ho0' : Own (w.alloc (.cells #[.int .i64 64, .func (.func 150) #[] #[], .func (.func 151) #[] #[]] 175)) base v xs := World.ownsRow.alloc h _
  have q0' : Pt w (w.alloc (.cells #[.int .i64 64, .func (.func 150) #[] #[], .func (.func 151) #[] #[]] 175)) v v := Pt.alloc w v _
  have hne0' : some w.heap.size ≠ v.ownBlock := h.ne
  have hvb : ∀ k, v.ownBlock = some k → base ≤ k := fun k hk => (World.ownsRow.lt h k hk).1
  have hle64 : (len : Int) ≤ 64 := by omega
  have HS := ehide3 hs
  have HOK := ehide3 hok
  have HL := ehide3 hlow
  clear h hs hok hlow
  unfold writesV
  go_enter Tryz.func101, Tryz.ntmps101
  go_wp2_with fail
  refine (putNumber_any (len : Int) ho0' (by omega) (by omega) (by omega) (by omega)).mono ?_
  rintro e w1 ⟨v1, rfl, ho1, p1⟩
  have hk1 := p1.block (k := w.heap.size) hz0' hne0'
  have hb1 := hk1.1.trans hblk
  have hne1 := hk1.2
  have q1 := q0'.trans p1
  clear hk1 hblk hz0' ho0' q0' hne0' p1
  go_wp2_with fail
  go_loopw [0, 16] (fun a i wr => ∃ (k : Nat) (va : Value), k ≤ len ∧ i = .int .i64 k ∧ a = va ∧ Own wr base va (xs ++ enc len ++ (ls.take k).flatMap wb) ∧ Pt w wr v va ∧ wr.heap[w.heap.size]? = some (.cells #[.int .i64 64, .func (.func 150) #[] #[], .func (.func 151) #[] #[]] 175 (0, 0)) ∧ some w.heap.size ≠ va.ownBlock) (fun _ i _ => len - (intOf i).toNat)
  case atStart => exact ⟨0, _, by omega, rfl, rfl, by simpa using ho1, q1, hb1, hne1⟩
  case round =>
    obtain ⟨k, va, hk, rfl, hva, ho, hq, hbk, hne⟩ := hrel
    replace hva := hva.symm
    subst hva
    have hB : Below base w wr := hq.blow hvb hbase
    by_cases hkl : k < len
    · obtain ⟨x, hxk⟩ : ∃ x, ls[k]? = some x := ⟨ls[k], List.getElem?_eq_getElem (by omega)⟩
      have hokx := HOK.out x (List.mem_of_getElem? hxk)
      obtain ⟨b, off, rfl, hbl, hcell⟩ := HS.out.three (by omega)
      have hlb := HL.out (by omega) b off rfl
      obtain ⟨r0, r1, r2⟩ := hcell k x _ _ _ hxk rfl
      have s0 := (hB.cell (p := ⟨b, off + k * 3, none⟩) hlb).trans r0
      have s1 := (hB.cell (p := ⟨b, off + k * 3 + 1, none⟩) hlb).trans r1
      have s2 := (hB.cell (p := ⟨b, off + k * 3 + 2, none⟩) hlb).trans r2
      have hki : (k : Int) < (len : Int) := by omega
      have hlen2 : (xs ++ enc len ++ (ls.take k).flatMap wb).length ≤ 900000 := by
        have := flat_len wb (ls.take k) 101 (fun y hy => wb_len y (HOK.out y (List.mem_of_mem_take hy)))
        rw [List.length_append, List.length_append]
        rw [List.length_take] at this
        omega
      have hflat := take_flat wb hxk
      obtain ⟨f0, f1, f2⟩ := x
      simp only [] at s0 s1 s2
      obtain ⟨wx, hwx⟩ : ∃ y, y = wr.alloc (.cells #[.string f0, .string f1, .bool f2] 37) := ⟨_, rfl⟩
      have ho' : Own (wr.alloc (.cells #[.string f0, .string f1, .bool f2] 37)) base va (xs ++ enc len ++ (ls.take k).flatMap wb) := World.ownsRow.alloc ho _
      have hq' : Pt w (wr.alloc (.cells #[.string f0, .string f1, .bool f2] 37)) v va := hq.trans (Pt.alloc wr va _)
      have hlt : w.heap.size < wr.heap.size := (Array.getElem?_eq_some_iff.1 hbk).1
      have hbk' := (blk_alloc' wr (.cells #[.string f0, .string f1, .bool f2] 37) w.heap.size hlt).trans hbk
      have g1 : (wr.alloc (.cells #[.string f0, .string f1, .bool f2] 37)).cell? ⟨w.heap.size, 1, none⟩ = some (.func (.func 150) #[] #[]) := by rw [Go.Joins.cell_of_block hbk']; rfl
      have HC := ehide3 (putWrite_any ⟨f0, f1, f2⟩ ho' (by have := hq'.g.size; omega) hokx hlen2)
      clear hcell r0 r1 r2 hwx wx ho hq hbk ho1 q1 hb1 hne1 hvb ho'
      go_wp2_with fail
      refine HC.out.mono ?_
      rintro e w2 ⟨v2, rfl, ho2, p2⟩
      have hk2 := p2.block (k := w.heap.size) (by simp; omega) hne
      have q2 := hq'.trans p2
      have hb2 := hk2.1.trans hbk'
      have hne2 := hk2.2
      have HO2 := ehide3 (show Own w2 base v2 (xs ++ enc len ++ (ls.take (k + 1)).flatMap wb) from by rw [hflat, ← List.append_assoc]; exact ho2)
      clear HC hk2 hbk' hq' ho2 p2 g1 s0 s1 s2
      go_wp2
      go_roundw
      case rel => exact ⟨k + 1, _, by omega, by go_num, rfl, HO2.out, q2, hb2, hne2⟩
      case measure => simp [intOf]; omega
    · have hki : ¬ (k : Int) < (len : Int) := by omega
      rw [List.take_of_length_le (by omega)] at ho
      rw [List.append_assoc] at ho
      go_wp2
      go_ret
      exact ⟨_, rfl, ho, hq⟩

end
end Go.Proofs.YthfcjfhaoabdeaaGreatDoor

/-
  The functions in fields that put a commit, a manifest; put; PutCommit, PutRow, PutGone, PutManifest.
-/
set_option linter.unusedVariables false
set_option linter.unusedSimpArgs false
namespace Go.Proofs.YthfcjfhaoabdeaaGreatDoor
open Go.RowKit Go.Maps

section
variable {w : World} {base : Nat} {v : Value} {xs : List Int}
set_option maxRecDepth 100000
set_option maxHeartbeats 4000000

theorem putCommit1_any {ao : Option Addr} {len cap : Nat} {ws : List Wr} (t : Int) (h : Own w base v xs) (hbase : base ≤ w.heap.size) (hs : Seq 3 Wr.cells w ao len cap ws) (hlow : 0 < len → ∀ b off, ao = some ⟨b, off, none⟩ → b < base) (hr : rightC ⟨t, ws⟩ = true) (hl : xs.length ≤ 50000) :
    Calls Tryz.prog 100 #[v, .agg #[.int .i64 t, .slice ao len cap]] w fun e w' => ∃ v', e = .returned v' ∧ Own w' base v' (xs ++ (enc t ++ (enc ws.length ++ ws.flatMap wb))) ∧ Pt w w' v v' := by
  have hx := hs.1
  have hr2 := hr
  simp only [rightC, isT, Bool.and_eq_true, decide_eq_true_eq] at hr
  obtain ⟨⟨⟨ht0, ht1⟩, hlen⟩, hup⟩ := hr
  rw [hx] at hlen ⊢
  have hokw := upW_mem ws _ hup
  have hel := enc_len t
  have HL := ehide3 hlow
  have HSQ : ∀ u : World, Below base w u → Seq 3 Wr.cells u ao len cap ws := fun u hu => by
    by_cases h0 : 0 < len
    · exact hs.below hu (fun b off e _ => hlow h0 b off e)
    · exact ⟨hs.1, hs.2.1, hs.2.2.1, fun h => absurd h h0⟩
  clear hs hlow hr2
  have hblk : (w.alloc (.cells #[.int .i64 t, .slice ao len cap] 27)).drew.heap[w.heap.size]? = some (.cells #[.int .i64 t, .slice ao len cap] 27 (0, 0)) := heap_alloc_new w _
  have hy0' : w.heap.size < (w.alloc (.cells #[.int .i64 t, .slice ao len cap] 27)).drew.heap.size := by simp [World.drew]
  have ho0' : Own (w.alloc (.cells #[.int .i64 t, .slice ao len cap] 27)).drew base v xs := h.alloc _
  have q0' : Pt w (w.alloc (.cells #[.int .i64 t, .slice ao len cap] 27)).drew v v := (Pt.alloc w v _).drew
  have hne0' : some w.heap.size ≠ v.ownBlock := h.ne
  have hvb : ∀ k, v.ownBlock = some k → base ≤ k := fun k hk => (World.ownsRow.lt h k hk).1
  clear h
  go_enter Tryz.func100, Tryz.ntmps100
  go_wp2
  refine wp_region_noPanic ?_
  refine wp_region_held_drew (S := fun u => u.heap[w.heap.size]? = some (.cells #[.int .i64 t, .slice ao len cap] 27 (0, 0))) (by kernel_rfl) (hblk) (fun hHeld => ?_)
  generalize (w.alloc (.cells #[.int .i64 t, .slice ao len cap] 27)).drew = w0 at hblk hy0' ho0' q0' hHeld ⊢
  have hy0 := hy0'
  have ho0 := ho0'
  have q0 := q0'
  have hne0 := hne0'
  obtain ⟨v0, rfl⟩ : ∃ x, x = v := ⟨_, rfl⟩
  clear hy0' ho0' q0' hne0' hblk
  refine wpAnyH_take (i := 0) (oi := { dst := some 5, op := _, type := _, pos := _, after := _, guard := _ }) (v := ?_) rfl (by kernel_rfl) (by kernel_rfl) (by kernel_rfl) (fun _ _ _ h => h) (Or.inl ⟨by rfl, ?_⟩) (by assumption) ?_
  rotate_left 1
  · intro u s1; have k0 : u.cell? ⟨w.heap.size, 0, none⟩ = some (.int .i64 t) := (by rw [Go.Joins.cell_of_block s1]; rfl); have k1 : u.cell? ⟨w.heap.size, 1, none⟩ = some (.slice ao len cap) := (by rw [Go.Joins.cell_of_block s1]; rfl); go_simp; try with_reducible rfl
  try simp only [Act.put, List.setIfInBounds_toArray, List.set_cons_zero, List.set_cons_succ]
  refine wpAnyH_take (i := 1) (oi := { dst := some 6, op := _, type := _, pos := _, after := _, guard := _ }) (v := ?_) rfl (by kernel_rfl) (by kernel_rfl) (by kernel_rfl) (fun _ _ _ h => h) (Or.inl ⟨by rfl, ?_⟩) (by assumption) ?_
  rotate_left 1
  · intro u s1; have k0 : u.cell? ⟨w.heap.size, 0, none⟩ = some (.int .i64 t) := (by rw [Go.Joins.cell_of_block s1]; rfl); have k1 : u.cell? ⟨w.heap.size, 1, none⟩ = some (.slice ao len cap) := (by rw [Go.Joins.cell_of_block s1]; rfl); go_simp; try with_reducible rfl
  try simp only [Act.put, List.setIfInBounds_toArray, List.set_cons_zero, List.set_cons_succ]
  refine wpAnyH_take (i := 2) (oi := { dst := some 7, op := _, type := _, pos := _, after := _, guard := _ }) (v := ?_) rfl (by kernel_rfl) (by kernel_rfl) (by kernel_rfl) (fun _ _ _ h => h) (Or.inl ⟨by rfl, ?_⟩) (by assumption) ?_
  rotate_left 1
  · intro u s1; have k0 : u.cell? ⟨w.heap.size, 0, none⟩ = some (.int .i64 t) := (by rw [Go.Joins.cell_of_block s1]; rfl); have k1 : u.cell? ⟨w.heap.size, 1, none⟩ = some (.slice ao len cap) := (by rw [Go.Joins.cell_of_block s1]; rfl); go_simp; try with_reducible rfl
  try simp only [Act.put, List.setIfInBounds_toArray, List.set_cons_zero, List.set_cons_succ]
  refine wpAnyH_take (i := 4) (oi := { dst := some 9, op := _, type := _, pos := _, after := _, guard := _ }) (v := ?_) rfl (by kernel_rfl) (by kernel_rfl) (by kernel_rfl) (fun _ _ _ h => h) (Or.inl ⟨by rfl, ?_⟩) (by assumption) ?_
  rotate_left 1
  · intro u s1; have k0 : u.cell? ⟨w.heap.size, 0, none⟩ = some (.int .i64 t) := (by rw [Go.Joins.cell_of_block s1]; rfl); have k1 : u.cell? ⟨w.heap.size, 1, none⟩ = some (.slice ao len cap) := (by rw [Go.Joins.cell_of_block s1]; rfl); go_simp; try with_reducible rfl
  try simp only [Act.put, List.setIfInBounds_toArray, List.set_cons_zero, List.set_cons_succ]
  refine wpAnyH_take (i := 5) (oi := { dst := some 10, op := _, type := _, pos := _, after := _, guard := _ }) (v := ?_) rfl (by kernel_rfl) (by kernel_rfl) (by kernel_rfl) (fun _ _ _ h => h) (Or.inl ⟨by rfl, ?_⟩) (by assumption) ?_
  rotate_left 1
  · intro u s1; have k0 : u.cell? ⟨w.heap.size, 0, none⟩ = some (.int .i64 t) := (by rw [Go.Joins.cell_of_block s1]; rfl); have k1 : u.cell? ⟨w.heap.size, 1, none⟩ = some (.slice ao len cap) := (by rw [Go.Joins.cell_of_block s1]; rfl); go_simp; try with_reducible rfl
  try simp only [Act.put, List.setIfInBounds_toArray, List.set_cons_zero, List.set_cons_succ]
  refine wpAnyH_ready (rs := [3]) (by kernel_rfl) (by simp) ?_
  refine AllReadyH.cons (o := { dst := some 8, op := _, type := _, pos := _, after := _, guard := _ }) rfl (fun K hK => ?_) ?_
  · go_simp
    refine (putTime_any t ho0 (by have := q0.g.size; omega) ht0 ht1 (by omega)).mono ?_
    rintro e w1 ⟨v1, rfl, ho1, p1⟩
    go_wp2_with fail
    have hk1 := p1.block (k := w.heap.size) hy0 hne0
    have hne1 := hk1.2
    have q1 := q0.trans p1
    have hy1 : w.heap.size < w1.heap.size := Nat.lt_of_lt_of_le hy0 p1.g.size
    refine hK.out _ _ (hk1.1.trans hHeld) (fun hHeld => ?_)
    clear hK K
    try simp only [Act.put, List.setIfInBounds_toArray, List.set_cons_zero, List.set_cons_succ]
    refine wpAnyH_ready (rs := [6]) (by kernel_rfl) (by simp) ?_
    refine AllReadyH.cons (o := { dst := some 11, op := _, type := _, pos := _, after := _, guard := _ }) rfl (fun K hK => ?_) ?_
    · go_simp
      refine (writes_any).mono ?_
      rintro e w2 ⟨rfl, hb2⟩
      go_wp2_with fail
      have ho2 := ho1.keep hb2
      have hne2 := hne1
      have q2 := q1.trans (Pt.below hb2)
      have hy2 : w.heap.size < w2.heap.size := Nat.lt_of_lt_of_le hy1 hb2.size
      refine hK.out _ _ ((hb2.block _ hy1).trans hHeld) (fun hHeld => ?_)
      clear hK K
      try simp only [Act.put, List.setIfInBounds_toArray, List.set_cons_zero, List.set_cons_succ]
      refine wpAnyH_ready (rs := [7]) (by kernel_rfl) (by simp) ?_
      refine AllReadyH.cons (o := { dst := some 12, op := _, type := _, pos := _, after := _, guard := _ }) rfl (fun K hK => ?_) ?_
      · go_simp
        refine (putWrites_any ho2 (by have := q2.g.size; omega) (HSQ _ (q2.blow hvb hbase)) HL.out hokw (by omega) (by simp; omega)).mono ?_
        rintro e w3 ⟨v2, rfl, ho3, p3⟩
        go_wp2_with fail
        have hk3 := p3.block (k := w.heap.size) hy2 hne2
        have hne3 := hk3.2
        have q3 := q2.trans p3
        have hy3 : w.heap.size < w3.heap.size := Nat.lt_of_lt_of_le hy2 p3.g.size
        refine hK.out _ _ (hk3.1.trans hHeld) (fun hHeld => ?_)
        clear hK K
        try simp only [Act.put, List.setIfInBounds_toArray, List.set_cons_zero, List.set_cons_succ]
        refine wpAnyH_take (i := 8) (oi := { dst := some 4, op := _, type := _, pos := _, after := _, guard := _ }) (v := ?_) rfl (by kernel_rfl) (by kernel_rfl) (by kernel_rfl) (fun _ _ _ h => h) (Or.inl ⟨by rfl, ?_⟩) (by assumption) ?_
        rotate_left 1
        · intro u s1; have k0 : u.cell? ⟨w.heap.size, 0, none⟩ = some (.int .i64 t) := (by rw [Go.Joins.cell_of_block s1]; rfl); have k1 : u.cell? ⟨w.heap.size, 1, none⟩ = some (.slice ao len cap) := (by rw [Go.Joins.cell_of_block s1]; rfl); go_simp; try with_reducible rfl
        try simp only [Act.put, List.setIfInBounds_toArray, List.set_cons_zero, List.set_cons_succ]
        refine wpAnyH_done (by kernel_rfl) ?_ _
        refine NoPanic.normal ?_
        go_wp2
        go_ret
        exact ⟨_, rfl, by simpa [List.append_assoc] using ho3, q3⟩
      exact AllReadyH.nil
    exact AllReadyH.nil
  exact AllReadyH.nil

end
end Go.Proofs.YthfcjfhaoabdeaaGreatDoor

/-
  put, and PutCommit, PutRow, PutGone, PutManifest.
-/
set_option linter.unusedVariables false
set_option linter.unusedSimpArgs false
namespace Go.Proofs.YthfcjfhaoabdeaaGreatDoor
open Go.RowKit Go.Maps

/-- The error of what is right, or not; the bytes. -/
def er (b : Bool) : Int := if b then 0 else 60
def bt (b : Bool) (l : List Int) : List Int := if b then l else []
theorem own_byte (w : World) (y : Int) : Own (w.alloc (.cells #[.int .u8 y] 5)) w.heap.size (.slice (some ⟨w.heap.size, 0, none⟩) 1 1) [y] :=
  Own.of_block (xs := [y]) (rest := []) (heap_alloc_new w (.cells #[.int .u8 y] 5)) (Nat.le_refl _) rfl (by unfold maxLen; omega)

/-- What 'commits' answers. -/
def kindC : Value := .agg #[.int .u8 67, .func (.func 99) #[] #[], .func (.func 100) #[] #[], .func (.func 103) #[] #[]]
theorem enter_rightC : ∀ args w, (callFunc 99 args).run Tryz.prog w = .ok (.enter 99 args) w := enters_of Tryz.func99 (by kernel_rfl) rfl
theorem enter_putC : ∀ args w, (callFunc 100 args).run Tryz.prog w = .ok (.enter 100 args) w := enters_of Tryz.func100 (by kernel_rfl) rfl
theorem enter_takeC : ∀ args w, (callFunc 103 args).run Tryz.prog w = .ok (.enter 103 args) w := enters_of Tryz.func103 (by kernel_rfl) rfl

section
variable {w : World}
set_option maxRecDepth 100000
set_option maxHeartbeats 4000000
theorem kindC_any : Calls Tryz.prog 59 #[] w fun e w' => e = .returned kindC ∧ Below w.heap.size w w' := by
  have hb : Below w.heap.size w (w.alloc (.cells #[.int .u8 67, .func (.func 99) #[] #[], .func (.func 100) #[] #[], .func (.func 103) #[] #[]] 116)) := (Below.refl _ _).alloc (Nat.le_refl _) _
  go_enter Tryz.func59, Tryz.ntmps59
  go_wp2
  refine bodyPost_ret (v := kindC) (by simp [results, Tryz.results59, go_sem, kindC]) rfl ⟨rfl, hb⟩

theorem putC_any {ao : Option Addr} {len cap : Nat} {ws : List Wr} (t : Int) (hs : Seq 3 Wr.cells w ao len cap ws) :
    Calls Tryz.prog 58 #[kindC, .agg #[.int .i64 t, .slice ao len cap]] w fun e w' => ∃ v', e = .returned (.tuple #[v', .int .i64 (er (rightC ⟨t, ws⟩))]) ∧ Own w' w.heap.size v' (bt (rightC ⟨t, ws⟩) (cmb ⟨t, ws⟩)) ∧ Below w.heap.size w w' := by
  have hA : Below w.heap.size w ((w.alloc (.cells #[.int .u8 67, .func (.func 99) #[] #[], .func (.func 100) #[] #[], .func (.func 103) #[] #[]] 116)).alloc (.cells #[.int .i64 t, .slice ao len cap] 27)) := ((Below.refl _ _).alloc (Nat.le_refl _) _).alloc (by simp) _
  have eR := enter_rightC
  have eP := enter_putC
  have hz : ((w.alloc (.cells #[.int .u8 67, .func (.func 99) #[] #[], .func (.func 100) #[] #[], .func (.func 103) #[] #[]] 116)).alloc (.cells #[.int .i64 t, .slice ao len cap] 27)).heap.size = w.heap.size + 2 := by simp
  have kb : ((w.alloc (.cells #[.int .u8 67, .func (.func 99) #[] #[], .func (.func 100) #[] #[], .func (.func 103) #[] #[]] 116)).alloc (.cells #[.int .i64 t, .slice ao len cap] 27)).heap[w.heap.size]? = some (.cells #[.int .u8 67, .func (.func 99) #[] #[], .func (.func 100) #[] #[], .func (.func 103) #[] #[]] 116 (0, 0)) := (blk_alloc' (w.alloc (.cells #[.int .u8 67, .func (.func 99) #[] #[], .func (.func 100) #[] #[], .func (.func 103) #[] #[]] 116)) (.cells #[.int .i64 t, .slice ao len cap] 27) w.heap.size (by simp)).trans (heap_alloc_new w _)
  have xb : ((w.alloc (.cells #[.int .u8 67, .func (.func 99) #[] #[], .func (.func 100) #[] #[], .func (.func 103) #[] #[]] 116)).alloc (.cells #[.int .i64 t, .slice ao len cap] 27)).heap[w.heap.size + 1]? = some (.cells #[.int .i64 t, .slice ao len cap] 27 (0, 0)) := by
    have := heap_alloc_new (w.alloc (.cells #[.int .u8 67, .func (.func 99) #[] #[], .func (.func 100) #[] #[], .func (.func 103) #[] #[]] 116)) (.cells #[.int .i64 t, .slice ao len cap] 27)
    rwa [show (w.alloc (.cells #[.int .u8 67, .func (.func 99) #[] #[], .func (.func 100) #[] #[], .func (.func 103) #[] #[]] 116)).heap.size = w.heap.size + 1 from by simp] at this
  have hright : Calls Tryz.prog 99 #[.agg #[.int .i64 t, .slice ao len cap]] ((w.alloc (.cells #[.int .u8 67, .func (.func 99) #[] #[], .func (.func 100) #[] #[], .func (.func 103) #[] #[]] 116)).alloc (.cells #[.int .i64 t, .slice ao len cap] 27)) _ := rightCommit_any t (hs.keep hA)
  have hlow : 0 < len → ∀ b off, ao = some ⟨b, off, none⟩ → b < w.heap.size := fun h0 b off e => by
    obtain ⟨b', off', e', hb, _⟩ := hs.2.2.2 h0
    rw [e] at e'
    cases e'
    exact hb
  cases hr : rightC ⟨t, ws⟩ with
  | false =>
    have HR := ehide3 hright
    clear hright
    unfold kindC
    go_enter Tryz.func58, Tryz.ntmps58
    go_wp2_with fail
    refine HR.out.mono ?_
    rintro e w1 ⟨rfl, hb1⟩
    rw [hr]
    have hB1 : Below w.heap.size w w1 := hA.trans (hb1.mono (by omega))
    go_wp2
    go_ret2
    exact ⟨_, rfl, World.ownsRow_nil _ _ _ _, hB1⟩
  | true =>
    have HR := ehide3 hright
    clear hright
    unfold kindC
    go_enter Tryz.func58, Tryz.ntmps58
    go_wp2_with fail
    refine HR.out.mono ?_
    rintro e w1 ⟨rfl, hb1⟩
    rw [hr]
    have hB1 : Below w.heap.size w w1 := hA.trans (hb1.mono (by omega))
    have j0 : w1.cell? ⟨w.heap.size, 0, none⟩ = some (.int .u8 67) := by rw [Go.Joins.cell_of_block ((hb1.block w.heap.size (by omega)).trans kb)]; rfl
    have j2 : w1.cell? ⟨w.heap.size, 2, none⟩ = some (.func (.func 100) #[] #[]) := by rw [Go.Joins.cell_of_block ((hb1.block w.heap.size (by omega)).trans kb)]; rfl
    have i0 : w1.cell? ⟨w.heap.size + 1, 0, none⟩ = some (.int .i64 t) := by rw [Go.Joins.cell_of_block ((hb1.block (w.heap.size + 1) (by omega)).trans xb)]; rfl
    have i1 : w1.cell? ⟨w.heap.size + 1, 1, none⟩ = some (.slice ao len cap) := by rw [Go.Joins.cell_of_block ((hb1.block (w.heap.size + 1) (by omega)).trans xb)]; rfl
    have hz1 := hb1.size
    have l0 : (w1.alloc (.cells #[.int .u8 67] 5)).cell? ⟨w.heap.size + 1, 0, none⟩ = some (.int .i64 t) := by rw [Go.Joins.cell_of_block ((blk_alloc' w1 (.cells #[.int .u8 67] 5) (w.heap.size + 1) (by omega)).trans ((hb1.block (w.heap.size + 1) (by omega)).trans xb))]; rfl
    have l1 : (w1.alloc (.cells #[.int .u8 67] 5)).cell? ⟨w.heap.size + 1, 1, none⟩ = some (.slice ao len cap) := by rw [Go.Joins.cell_of_block ((blk_alloc' w1 (.cells #[.int .u8 67] 5) (w.heap.size + 1) (by omega)).trans ((hb1.block (w.heap.size + 1) (by omega)).trans xb))]; rfl
    have hown := (own_byte w1 67).low (base' := w.heap.size) (by omega)
    have hal1 : Below w1.heap.size w1 (w1.alloc (.cells #[.int .u8 67] 5)) := (Below.refl _ _).alloc (Nat.le_refl _) _
    have hB2 : Below w.heap.size w (w1.alloc (.cells #[.int .u8 67] 5)) := hB1.trans (hal1.mono (by omega))
    have hz2 := hal1.size
    have HP := ehide3 (putCommit1_any t hown (by omega) (hs.keep hB2) hlow hr (by simp))
    have hvb := (fun k hk => (World.ownsRow.lt hown k hk).1)
    clear hown kb xb hA hb1 HR
    go_wp2_with fail
    refine HP.out.mono ?_
    rintro e w2 ⟨v2, rfl, ho2, p2⟩
    have hB3 : Below w.heap.size w w2 := hB2.trans (p2.blow hvb (by omega))
    clear HP hB2 hvb p2
    go_wp2
    go_ret2
    exact ⟨_, rfl, ho2, hB3⟩

theorem PutCommit_any {ao : Option Addr} {len cap : Nat} {ws : List Wr} (t : Int) (hs : Seq 3 Wr.cells w ao len cap ws) :
    Calls Tryz.prog 38 #[.agg #[.int .i64 t, .slice ao len cap]] w fun e w' => ∃ v', e = .returned (.tuple #[v', .int .i64 (er (rightC ⟨t, ws⟩))]) ∧ Own w' w.heap.size v' (bt (rightC ⟨t, ws⟩) (cmb ⟨t, ws⟩)) ∧ Below w.heap.size w w' := by
  have hy0 : w.heap.size < (w.alloc (.cells #[.int .i64 t, .slice ao len cap] 27)).heap.size := by simp
  go_enter Tryz.func38, Tryz.ntmps38
  go_wp2
  refine wp_region_noPanic ?_
  refine wp_region_held_drew (S := fun u => u.heap[w.heap.size]? = some (.cells #[.int .i64 t, .slice ao len cap] 27 (0, 0)) ∧ Below w.heap.size w u) (by kernel_rfl) (⟨heap_alloc_new w _, below_drewN ((Below.refl _ _).alloc (Nat.le_refl _) _) 1⟩) (fun hHeld => ?_)
  have hy : w.heap.size < (w.alloc (.cells #[.int .i64 t, .slice ao len cap] 27)).drew.heap.size := hy0
  refine wpAnyH_take (i := 1) (oi := { dst := some 5, op := _, type := _, pos := _, after := _, guard := _ }) (v := ?_) rfl (by kernel_rfl) (by kernel_rfl) (by kernel_rfl) (fun _ _ _ h => h) (Or.inl ⟨by rfl, ?_⟩) (by assumption) ?_
  rotate_left 1
  · intro u s1; obtain ⟨s2, s3⟩ := s1; have k0 : u.cell? ⟨w.heap.size, 0, none⟩ = some (.int .i64 t) := (by rw [Go.Joins.cell_of_block s2]; rfl); have k1 : u.cell? ⟨w.heap.size, 1, none⟩ = some (.slice ao len cap) := (by rw [Go.Joins.cell_of_block s2]; rfl); go_simp; try with_reducible rfl
  try simp only [Act.put, List.setIfInBounds_toArray, List.set_cons_zero, List.set_cons_succ]
  refine wpAnyH_ready (rs := [0]) (by kernel_rfl) (by simp) ?_
  refine AllReadyH.cons (o := { dst := some 4, op := _, type := _, pos := _, after := _, guard := _ }) rfl (fun K hK => ?_) ?_
  · go_simp
    refine (kindC_any).mono ?_
    rintro e w1 ⟨rfl, hb1⟩
    go_wp2_with fail
    have B1 := hHeld.2.trans (hb1.mono hHeld.2.size)
    have hz1 := hb1.size
    refine hK.out _ _ ⟨(hb1.block w.heap.size hy).trans hHeld.1, B1⟩ (fun hHeld => ?_)
    clear hK K
    try simp only [Act.put, List.setIfInBounds_toArray, List.set_cons_zero, List.set_cons_succ]
    refine wpAnyH_ready (rs := [2]) (by kernel_rfl) (by simp) ?_
    refine AllReadyH.cons (o := { dst := some 6, op := _, type := _, pos := _, after := _, guard := _ }) rfl (fun K hK => ?_) ?_
    · go_simp
      refine (putC_any t (hs.keep hHeld.2)).mono ?_
      rintro e w2 ⟨v2, rfl, ho2, hb2⟩
      go_wp2_with fail
      have hle : w.heap.size ≤ w1.heap.size := by omega
      have ho3 := ho2.low hle
      have hB3 := hHeld.2.trans (hb2.mono hle)
      refine hK.out _ _ ⟨(hb2.block w.heap.size (by omega)).trans hHeld.1, hB3⟩ (fun hHeld => ?_)
      clear hK K
      try simp only [Act.put, List.setIfInBounds_toArray, List.set_cons_zero, List.set_cons_succ]
      refine wpAnyH_take (i := 3) (oi := { dst := some 7, op := _, type := _, pos := _, after := _, guard := _ }) (v := ?_) rfl (by kernel_rfl) (by kernel_rfl) (by kernel_rfl) (fun _ _ _ h => h) (Or.inl ⟨by rfl, ?_⟩) (by assumption) ?_
      rotate_left 1
      · intro u s1; obtain ⟨s2, s3⟩ := s1; have k0 : u.cell? ⟨w.heap.size, 0, none⟩ = some (.int .i64 t) := (by rw [Go.Joins.cell_of_block s2]; rfl); have k1 : u.cell? ⟨w.heap.size, 1, none⟩ = some (.slice ao len cap) := (by rw [Go.Joins.cell_of_block s2]; rfl); go_simp; try with_reducible rfl
      try simp only [Act.put, List.setIfInBounds_toArray, List.set_cons_zero, List.set_cons_succ]
      refine wpAnyH_take (i := 4) (oi := { dst := some 8, op := _, type := _, pos := _, after := _, guard := _ }) (v := ?_) rfl (by kernel_rfl) (by kernel_rfl) (by kernel_rfl) (fun _ _ _ h => h) (Or.inl ⟨by rfl, ?_⟩) (by assumption) ?_
      rotate_left 1
      · intro u s1; obtain ⟨s2, s3⟩ := s1; have k0 : u.cell? ⟨w.heap.size, 0, none⟩ = some (.int .i64 t) := (by rw [Go.Joins.cell_of_block s2]; rfl); have k1 : u.cell? ⟨w.heap.size, 1, none⟩ = some (.slice ao len cap) := (by rw [Go.Joins.cell_of_block s2]; rfl); go_simp; try with_reducible rfl
      try simp only [Act.put, List.setIfInBounds_toArray, List.set_cons_zero, List.set_cons_succ]
      refine wpAnyH_take (i := 5) (oi := { dst := some 2, op := _, type := _, pos := _, after := _, guard := _ }) (v := ?_) rfl (by kernel_rfl) (by kernel_rfl) (by kernel_rfl) (fun _ _ _ h => h) (Or.inl ⟨by rfl, ?_⟩) (by assumption) ?_
      rotate_left 1
      · intro u s1; obtain ⟨s2, s3⟩ := s1; have k0 : u.cell? ⟨w.heap.size, 0, none⟩ = some (.int .i64 t) := (by rw [Go.Joins.cell_of_block s2]; rfl); have k1 : u.cell? ⟨w.heap.size, 1, none⟩ = some (.slice ao len cap) := (by rw [Go.Joins.cell_of_block s2]; rfl); go_simp; try with_reducible rfl
      try simp only [Act.put, List.setIfInBounds_toArray, List.set_cons_zero, List.set_cons_succ]
      refine wpAnyH_take (i := 6) (oi := { dst := some 3, op := _, type := _, pos := _, after := _, guard := _ }) (v := ?_) rfl (by kernel_rfl) (by kernel_rfl) (by kernel_rfl) (fun _ _ _ h => h) (Or.inl ⟨by rfl, ?_⟩) (by assumption) ?_
      rotate_left 1
      · intro u s1; obtain ⟨s2, s3⟩ := s1; have k0 : u.cell? ⟨w.heap.size, 0, none⟩ = some (.int .i64 t) := (by rw [Go.Joins.cell_of_block s2]; rfl); have k1 : u.cell? ⟨w.heap.size, 1, none⟩ = some (.slice ao len cap) := (by rw [Go.Joins.cell_of_block s2]; rfl); go_simp; try with_reducible rfl
      try simp only [Act.put, List.setIfInBounds_toArray, List.set_cons_zero, List.set_cons_succ]
      refine wpAnyH_done (by kernel_rfl) ?_ _
      refine NoPanic.normal ?_
      go_wp2
      go_ret2
      exact ⟨_, rfl, ho3, hB3⟩
    exact AllReadyH.nil
  exact AllReadyH.nil
end

/-- What 'rows' answers. -/
def kindR : Value := .agg #[.int .u8 82, .func (.func 89) #[] #[], .func (.func 93) #[] #[], .func (.func 96) #[] #[]]
theorem enter_rightR : ∀ args w, (callFunc 89 args).run Tryz.prog w = .ok (.enter 89 args) w := enters_of Tryz.func89 (by kernel_rfl) rfl
theorem enter_putR : ∀ args w, (callFunc 93 args).run Tryz.prog w = .ok (.enter 93 args) w := enters_of Tryz.func93 (by kernel_rfl) rfl
section
variable {w : World}
set_option maxRecDepth 100000
set_option maxHeartbeats 4000000
theorem kindR_any : Calls Tryz.prog 57 #[] w fun e w' => e = .returned kindR ∧ Below w.heap.size w w' := by
  have hb : Below w.heap.size w (w.alloc (.cells #[.int .u8 82, .func (.func 89) #[] #[], .func (.func 93) #[] #[], .func (.func 96) #[] #[]] 110)) := (Below.refl _ _).alloc (Nat.le_refl _) _
  go_enter Tryz.func57, Tryz.ntmps57
  go_wp2
  refine bodyPost_ret (v := kindR) (by simp [results, Tryz.results57, go_sem, kindR]) rfl ⟨rfl, hb⟩

theorem putR_any (r : Rw) :
    Calls Tryz.prog 56 #[kindR, r.v] w fun e w' => ∃ v', e = .returned (.tuple #[v', .int .i64 (er (rightR r))]) ∧ Own w' w.heap.size v' (bt (rightR r) (rb r)) ∧ Below w.heap.size w w' := by
  have hA : Below w.heap.size w ((w.alloc (.cells #[.int .u8 82, .func (.func 89) #[] #[], .func (.func 93) #[] #[], .func (.func 96) #[] #[]] 110)).alloc (.cells #[.string r.key, .string r.val, .int .i64 r.time] 33)) := ((Below.refl _ _).alloc (Nat.le_refl _) _).alloc (by simp) _
  have eR := enter_rightR
  have eP := enter_putR
  have hz : ((w.alloc (.cells #[.int .u8 82, .func (.func 89) #[] #[], .func (.func 93) #[] #[], .func (.func 96) #[] #[]] 110)).alloc (.cells #[.string r.key, .string r.val, .int .i64 r.time] 33)).heap.size = w.heap.size + 2 := by simp
  have kb : ((w.alloc (.cells #[.int .u8 82, .func (.func 89) #[] #[], .func (.func 93) #[] #[], .func (.func 96) #[] #[]] 110)).alloc (.cells #[.string r.key, .string r.val, .int .i64 r.time] 33)).heap[w.heap.size]? = some (.cells #[.int .u8 82, .func (.func 89) #[] #[], .func (.func 93) #[] #[], .func (.func 96) #[] #[]] 110 (0, 0)) := (blk_alloc' (w.alloc (.cells #[.int .u8 82, .func (.func 89) #[] #[], .func (.func 93) #[] #[], .func (.func 96) #[] #[]] 110)) (.cells #[.string r.key, .string r.val, .int .i64 r.time] 33) w.heap.size (by simp)).trans (heap_alloc_new w _)
  have xb : ((w.alloc (.cells #[.int .u8 82, .func (.func 89) #[] #[], .func (.func 93) #[] #[], .func (.func 96) #[] #[]] 110)).alloc (.cells #[.string r.key, .string r.val, .int .i64 r.time] 33)).heap[w.heap.size + 1]? = some (.cells #[.string r.key, .string r.val, .int .i64 r.time] 33 (0, 0)) := by
    have := heap_alloc_new (w.alloc (.cells #[.int .u8 82, .func (.func 89) #[] #[], .func (.func 93) #[] #[], .func (.func 96) #[] #[]] 110)) (.cells #[.string r.key, .string r.val, .int .i64 r.time] 33)
    rwa [show (w.alloc (.cells #[.int .u8 82, .func (.func 89) #[] #[], .func (.func 93) #[] #[], .func (.func 96) #[] #[]] 110)).heap.size = w.heap.size + 1 from by simp] at this
  have hright : Calls Tryz.prog 89 #[r.v] ((w.alloc (.cells #[.int .u8 82, .func (.func 89) #[] #[], .func (.func 93) #[] #[], .func (.func 96) #[] #[]] 110)).alloc (.cells #[.string r.key, .string r.val, .int .i64 r.time] 33)) _ := rightRow_any _ r
  cases hr : rightR r with
  | false =>
    have HR := ehide3 hright
    clear hright
    unfold kindR Rw.v
    go_enter Tryz.func56, Tryz.ntmps56
    go_wp2_with fail
    refine HR.out.mono ?_
    rintro e w1 ⟨rfl, hb1⟩
    rw [hr]
    have hB1 : Below w.heap.size w w1 := hA.trans (hb1.mono (by omega))
    go_wp2
    go_ret2
    exact ⟨_, rfl, World.ownsRow_nil _ _ _ _, hB1⟩
  | true =>
    have HR := ehide3 hright
    clear hright
    unfold kindR Rw.v
    go_enter Tryz.func56, Tryz.ntmps56
    go_wp2_with fail
    refine HR.out.mono ?_
    rintro e w1 ⟨rfl, hb1⟩
    rw [hr]
    have hB1 : Below w.heap.size w w1 := hA.trans (hb1.mono (by omega))
    have j0 : w1.cell? ⟨w.heap.size, 0, none⟩ = some (.int .u8 82) := by rw [Go.Joins.cell_of_block ((hb1.block w.heap.size (by omega)).trans kb)]; rfl
    have j2 : w1.cell? ⟨w.heap.size, 2, none⟩ = some (.func (.func 93) #[] #[]) := by rw [Go.Joins.cell_of_block ((hb1.block w.heap.size (by omega)).trans kb)]; rfl
    have i0 : w1.cell? ⟨w.heap.size + 1, 0, none⟩ = some (.string r.key) := by rw [Go.Joins.cell_of_block ((hb1.block (w.heap.size + 1) (by omega)).trans xb)]; rfl
    have i1 : w1.cell? ⟨w.heap.size + 1, 1, none⟩ = some (.string r.val) := by rw [Go.Joins.cell_of_block ((hb1.block (w.heap.size + 1) (by omega)).trans xb)]; rfl
    have i2 : w1.cell? ⟨w.heap.size + 1, 2, none⟩ = some (.int .i64 r.time) := by rw [Go.Joins.cell_of_block ((hb1.block (w.heap.size + 1) (by omega)).trans xb)]; rfl
    have hz1 := hb1.size
    have l0 : (w1.alloc (.cells #[.int .u8 82] 5)).cell? ⟨w.heap.size + 1, 0, none⟩ = some (.string r.key) := by rw [Go.Joins.cell_of_block ((blk_alloc' w1 (.cells #[.int .u8 82] 5) (w.heap.size + 1) (by omega)).trans ((hb1.block (w.heap.size + 1) (by omega)).trans xb))]; rfl
    have l1 : (w1.alloc (.cells #[.int .u8 82] 5)).cell? ⟨w.heap.size + 1, 1, none⟩ = some (.string r.val) := by rw [Go.Joins.cell_of_block ((blk_alloc' w1 (.cells #[.int .u8 82] 5) (w.heap.size + 1) (by omega)).trans ((hb1.block (w.heap.size + 1) (by omega)).trans xb))]; rfl
    have l2 : (w1.alloc (.cells #[.int .u8 82] 5)).cell? ⟨w.heap.size + 1, 2, none⟩ = some (.int .i64 r.time) := by rw [Go.Joins.cell_of_block ((blk_alloc' w1 (.cells #[.int .u8 82] 5) (w.heap.size + 1) (by omega)).trans ((hb1.block (w.heap.size + 1) (by omega)).trans xb))]; rfl
    have hown := (own_byte w1 82).low (base' := w.heap.size) (by omega)
    have hal1 : Below w1.heap.size w1 (w1.alloc (.cells #[.int .u8 82] 5)) := (Below.refl _ _).alloc (Nat.le_refl _) _
    have hB2 : Below w.heap.size w (w1.alloc (.cells #[.int .u8 82] 5)) := hB1.trans (hal1.mono (by omega))
    have hz2 := hal1.size
    have HP := ehide3 (putRow_any r hown (by omega) hr (by simp))
    have hvb := (fun k hk => (World.ownsRow.lt hown k hk).1)
    clear hown kb xb hA hb1 HR
    go_wp2_with fail
    refine HP.out.mono ?_
    rintro e w2 ⟨v2, rfl, ho2, p2⟩
    have hB3 : Below w.heap.size w w2 := hB2.trans (p2.blow hvb (by omega))
    clear HP hB2 hvb p2
    go_wp2
    go_ret2
    exact ⟨_, rfl, ho2, hB3⟩

theorem PutRow_any (r : Rw) :
    Calls Tryz.prog 36 #[r.v] w fun e w' => ∃ v', e = .returned (.tuple #[v', .int .i64 (er (rightR r))]) ∧ Own w' w.heap.size v' (bt (rightR r) (rb r)) ∧ Below w.heap.size w w' := by
  have hy0 : w.heap.size < (w.alloc (.cells #[.string r.key, .string r.val, .int .i64 r.time] 33)).heap.size := by simp
  unfold Rw.v
  go_enter Tryz.func36, Tryz.ntmps36
  go_wp2
  refine wp_region_noPanic ?_
  refine wp_region_held_drew (S := fun u => u.heap[w.heap.size]? = some (.cells #[.string r.key, .string r.val, .int .i64 r.time] 33 (0, 0)) ∧ Below w.heap.size w u) (by kernel_rfl) (⟨heap_alloc_new w _, below_drewN ((Below.refl _ _).alloc (Nat.le_refl _) _) 1⟩) (fun hHeld => ?_)
  have hy : w.heap.size < (w.alloc (.cells #[.string r.key, .string r.val, .int .i64 r.time] 33)).drew.heap.size := hy0
  refine wpAnyH_take (i := 1) (oi := { dst := some 5, op := _, type := _, pos := _, after := _, guard := _ }) (v := ?_) rfl (by kernel_rfl) (by kernel_rfl) (by kernel_rfl) (fun _ _ _ h => h) (Or.inl ⟨by rfl, ?_⟩) (by assumption) ?_
  rotate_left 1
  · intro u s1; obtain ⟨s2, s3⟩ := s1; have k0 : u.cell? ⟨w.heap.size, 0, none⟩ = some (.string r.key) := (by rw [Go.Joins.cell_of_block s2]; rfl); have k1 : u.cell? ⟨w.heap.size, 1, none⟩ = some (.string r.val) := (by rw [Go.Joins.cell_of_block s2]; rfl); have k2 : u.cell? ⟨w.heap.size, 2, none⟩ = some (.int .i64 r.time) := (by rw [Go.Joins.cell_of_block s2]; rfl); go_simp; try with_reducible rfl
  try simp only [Act.put, List.setIfInBounds_toArray, List.set_cons_zero, List.set_cons_succ]
  refine wpAnyH_ready (rs := [0]) (by kernel_rfl) (by simp) ?_
  refine AllReadyH.cons (o := { dst := some 4, op := _, type := _, pos := _, after := _, guard := _ }) rfl (fun K hK => ?_) ?_
  · go_simp
    refine (kindR_any).mono ?_
    rintro e w1 ⟨rfl, hb1⟩
    go_wp2_with fail
    have B1 := hHeld.2.trans (hb1.mono hHeld.2.size)
    have hz1 := hb1.size
    refine hK.out _ _ ⟨(hb1.block w.heap.size hy).trans hHeld.1, B1⟩ (fun hHeld => ?_)
    clear hK K
    try simp only [Act.put, List.setIfInBounds_toArray, List.set_cons_zero, List.set_cons_succ]
    refine wpAnyH_ready (rs := [2]) (by kernel_rfl) (by simp) ?_
    refine AllReadyH.cons (o := { dst := some 6, op := _, type := _, pos := _, after := _, guard := _ }) rfl (fun K hK => ?_) ?_
    · go_simp
      refine (putR_any r).mono ?_
      rintro e w2 ⟨v2, rfl, ho2, hb2⟩
      go_wp2_with fail
      have hle : w.heap.size ≤ w1.heap.size := by omega
      have ho3 := ho2.low hle
      have hB3 := hHeld.2.trans (hb2.mono hle)
      refine hK.out _ _ ⟨(hb2.block w.heap.size (by omega)).trans hHeld.1, hB3⟩ (fun hHeld => ?_)
      clear hK K
      try simp only [Act.put, List.setIfInBounds_toArray, List.set_cons_zero, List.set_cons_succ]
      refine wpAnyH_take (i := 3) (oi := { dst := some 7, op := _, type := _, pos := _, after := _, guard := _ }) (v := ?_) rfl (by kernel_rfl) (by kernel_rfl) (by kernel_rfl) (fun _ _ _ h => h) (Or.inl ⟨by rfl, ?_⟩) (by assumption) ?_
      rotate_left 1
      · intro u s1; obtain ⟨s2, s3⟩ := s1; have k0 : u.cell? ⟨w.heap.size, 0, none⟩ = some (.string r.key) := (by rw [Go.Joins.cell_of_block s2]; rfl); have k1 : u.cell? ⟨w.heap.size, 1, none⟩ = some (.string r.val) := (by rw [Go.Joins.cell_of_block s2]; rfl); have k2 : u.cell? ⟨w.heap.size, 2, none⟩ = some (.int .i64 r.time) := (by rw [Go.Joins.cell_of_block s2]; rfl); go_simp; try with_reducible rfl
      try simp only [Act.put, List.setIfInBounds_toArray, List.set_cons_zero, List.set_cons_succ]
      refine wpAnyH_take (i := 4) (oi := { dst := some 8, op := _, type := _, pos := _, after := _, guard := _ }) (v := ?_) rfl (by kernel_rfl) (by kernel_rfl) (by kernel_rfl) (fun _ _ _ h => h) (Or.inl ⟨by rfl, ?_⟩) (by assumption) ?_
      rotate_left 1
      · intro u s1; obtain ⟨s2, s3⟩ := s1; have k0 : u.cell? ⟨w.heap.size, 0, none⟩ = some (.string r.key) := (by rw [Go.Joins.cell_of_block s2]; rfl); have k1 : u.cell? ⟨w.heap.size, 1, none⟩ = some (.string r.val) := (by rw [Go.Joins.cell_of_block s2]; rfl); have k2 : u.cell? ⟨w.heap.size, 2, none⟩ = some (.int .i64 r.time) := (by rw [Go.Joins.cell_of_block s2]; rfl); go_simp; try with_reducible rfl
      try simp only [Act.put, List.setIfInBounds_toArray, List.set_cons_zero, List.set_cons_succ]
      refine wpAnyH_take (i := 5) (oi := { dst := some 2, op := _, type := _, pos := _, after := _, guard := _ }) (v := ?_) rfl (by kernel_rfl) (by kernel_rfl) (by kernel_rfl) (fun _ _ _ h => h) (Or.inl ⟨by rfl, ?_⟩) (by assumption) ?_
      rotate_left 1
      · intro u s1; obtain ⟨s2, s3⟩ := s1; have k0 : u.cell? ⟨w.heap.size, 0, none⟩ = some (.string r.key) := (by rw [Go.Joins.cell_of_block s2]; rfl); have k1 : u.cell? ⟨w.heap.size, 1, none⟩ = some (.string r.val) := (by rw [Go.Joins.cell_of_block s2]; rfl); have k2 : u.cell? ⟨w.heap.size, 2, none⟩ = some (.int .i64 r.time) := (by rw [Go.Joins.cell_of_block s2]; rfl); go_simp; try with_reducible rfl
      try simp only [Act.put, List.setIfInBounds_toArray, List.set_cons_zero, List.set_cons_succ]
      refine wpAnyH_take (i := 6) (oi := { dst := some 3, op := _, type := _, pos := _, after := _, guard := _ }) (v := ?_) rfl (by kernel_rfl) (by kernel_rfl) (by kernel_rfl) (fun _ _ _ h => h) (Or.inl ⟨by rfl, ?_⟩) (by assumption) ?_
      rotate_left 1
      · intro u s1; obtain ⟨s2, s3⟩ := s1; have k0 : u.cell? ⟨w.heap.size, 0, none⟩ = some (.string r.key) := (by rw [Go.Joins.cell_of_block s2]; rfl); have k1 : u.cell? ⟨w.heap.size, 1, none⟩ = some (.string r.val) := (by rw [Go.Joins.cell_of_block s2]; rfl); have k2 : u.cell? ⟨w.heap.size, 2, none⟩ = some (.int .i64 r.time) := (by rw [Go.Joins.cell_of_block s2]; rfl); go_simp; try with_reducible rfl
      try simp only [Act.put, List.setIfInBounds_toArray, List.set_cons_zero, List.set_cons_succ]
      refine wpAnyH_done (by kernel_rfl) ?_ _
      refine NoPanic.normal ?_
      go_wp2
      go_ret2
      exact ⟨_, rfl, ho3, hB3⟩
    exact AllReadyH.nil
  exact AllReadyH.nil
end

section
variable {w : World}
set_option maxRecDepth 100000
set_option maxHeartbeats 4000000
end

section
variable {w : World}
set_option maxRecDepth 100000
set_option maxHeartbeats 4000000
end
end Go.Proofs.YthfcjfhaoabdeaaGreatDoor
