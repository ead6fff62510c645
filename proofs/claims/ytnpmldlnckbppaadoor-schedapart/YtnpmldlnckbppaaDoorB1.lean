/-
  What the laws' own texts make: operations in a block, numbers behind one another, numbers that come in behind a row of one's own.
-/
import Derived.Test.YtnpmldlnckbppaaDoorP2
import Derived.Test.YtnpmldlnckbppaaDoorS8
import Derived.Test.YtnpmldlnckbppaaDoorT6
import Derived.Laws.AppendOwnNone
set_option linter.unusedVariables false
set_option linter.unusedSimpArgs false
namespace Go.Proofs.YtnpmldlnckbppaaDoor
open Go.RowKit

/-- A number brought into 0 to m - 1. -/
def nrm (m x : Int) : Nat := ((x.tmod m + m) % m).toNat
theorem nrm_spec (m x : Int) (hm : 0 < m) (hm2 : m < 1000) (hx : I64 x) : (nrm m x : Int) < m ∧ IntKind.i64.wrap (x.tmod m) = x.tmod m ∧ IntKind.i64.wrap (x.tmod m + m) = x.tmod m + m ∧ (x.tmod m + m).tmod m = (nrm m x : Int) ∧ IntKind.i64.wrap ((nrm m x : Int)) = (nrm m x : Int) ∧ (x.tmod m + m) % m = (nrm m x : Int) := by
  have h1 := Int.tmod_lt_of_pos x hm
  have h2 := Int.lt_tmod_of_pos x hm
  have h3 : 0 ≤ (x.tmod m + m) % m := Int.emod_nonneg _ (by omega)
  have h4 : (x.tmod m + m) % m < m := Int.emod_lt_of_pos _ hm
  have h5 : (nrm m x : Int) = (x.tmod m + m) % m := by unfold nrm; omega
  refine ⟨by omega, by rw [IntKind.wrap_i64]; omega, by rw [IntKind.wrap_i64]; omega, ?_, by rw [IntKind.wrap_i64]; omega, h5.symm⟩
  rw [Int.tmod_eq_emod_of_nonneg (by omega), h5]

/-- A block of operations, the first k of which are these. -/
def Ob (w : World) (g n k : Nat) (os : List OpR) : Prop := ∃ arr : Array Value, w.heap[g]? = some (.cells arr 42 (0, 0)) ∧ arr.size = n * 4 ∧ os.length = n ∧ ∀ j o, j < k → os[j]? = some o → ∀ t u, o.cells[t]? = some u → arr[j * 4 + t]? = some u
theorem Ob.lt {w : World} {g n k : Nat} {os : List OpR} (h : Ob w g n k os) : g < w.heap.size := by
  obtain ⟨arr, h1, -⟩ := h
  exact (Array.getElem?_eq_some_iff.1 h1).1
theorem Ob.same {w w' : World} {g n k : Nat} {os : List OpR} (h : Ob w g n k os) (e : w'.heap[g]? = w.heap[g]?) : Ob w' g n k os := by
  obtain ⟨arr, h1, h2⟩ := h
  exact ⟨arr, e.trans h1, h2⟩
theorem Ob.seq {w : World} {g n : Nat} {os : List OpR} (h : Ob w g n n os) (hn : n ≤ 1000) : Seq 4 OpR.cells w (some ⟨g, 0, none⟩) n n os := by
  obtain ⟨arr, h1, h2, h3, h4⟩ := h
  refine ⟨h3, Nat.le_refl _, by unfold maxLen; omega, fun _ => ⟨g, 0, rfl, (Array.getElem?_eq_some_iff.1 h1).1, fun i x hi j u hu => ?_⟩⟩
  have hin : i < n := by rw [← h3]; exact (List.getElem?_eq_some_iff.1 hi).1
  rw [Go.Joins.cell_of_block h1, Nat.zero_add]
  exact h4 i x hin hi j u hu
theorem infoO : (Tryd.prog.info? 42).map (fun i => (i.zero, i.size, i.bytes)) = some (some (.agg #[.int .i64 0, .int .i64 0, .int .u64 0, .int .u64 0]), 4, 32) := by kernel_rfl
theorem infoS : (Tryd.prog.info? 39).map (fun i => (i.zero, i.size, i.bytes)) = some (some nilS, 1, 24) := by kernel_rfl
theorem mk_opsN (n : Nat) (hn : n ≤ 1000) : ∃ Y : Array Value, Y.size = n * 4 ∧ ∀ u : World, (Instr.makeSlice 39 (.int .i64 (n : Int)) (.int .i64 (n : Int))).run Tryd.prog u = .ok (.slice (some ⟨u.heap.size, 0, none⟩) n n) (u.alloc (.cells Y 42)) := by
  obtain ⟨i0, hi, hz0, hz1, hz2⟩ := info_parts infoO
  refine ⟨madeCells (Value.agg #[.int .i64 0, .int .i64 0, .int .u64 0, .int .u64 0]).cells (n * 4), by simp [madeCells], fun u => ?_⟩
  have := run_make (P := Tryd.prog) u 39 42 i0 _ Tryd.underlying39 hi hz0 .i64 .i64 n n (by omega) (by omega) (by rw [hz2]; omega) (by omega)
  rw [this, hz1]
  simp only [Int.toNat_natCast]
/-- One more is laid there. -/
def put4 (w : World) (g j : Nat) (o : OpR) : World := (((w.setCell ⟨g, j * 4, none⟩ (.int .i64 o.k)).setCell ⟨g, j * 4 + 1, none⟩ (.int .i64 o.c)).setCell ⟨g, j * 4 + 2, none⟩ (.int .u64 o.a)).setCell ⟨g, j * 4 + 3, none⟩ (.int .u64 o.b)
theorem Ob.put {w : World} {g n k : Nat} {os : List OpR} {o : OpR} (h : Ob w g n k os) (ho : os[k]? = some o) : Ob (put4 w g k o) g n (k + 1) os := by
  obtain ⟨arr, h1, h2, h3, h4⟩ := h
  have hk : k < n := by rw [← h3]; exact (List.getElem?_eq_some_iff.1 ho).1
  refine ⟨(((arr.setIfInBounds (k * 4) (.int .i64 o.k)).setIfInBounds (k * 4 + 1) (.int .i64 o.c)).setIfInBounds (k * 4 + 2) (.int .u64 o.a)).setIfInBounds (k * 4 + 3) (.int .u64 o.b), ?_, by simpa using h2, h3, fun j o' hj ho' t u hu => ?_⟩
  · unfold put4
    rw [Go.Joins.block_setCell (Go.Joins.block_setCell (Go.Joins.block_setCell (Go.Joins.block_setCell h1 _) _) _) _]
  · have ht : t < 4 := (List.getElem?_eq_some_iff.1 hu).1
    by_cases e : j = k
    · subst e
      obtain rfl : o = o' := Option.some.inj (ho.symm.trans ho')
      simp only [Array.getElem?_setIfInBounds, Array.size_setIfInBounds, h2]
      rcases t with _ | _ | _ | _ | t
      · cases hu
        have a1 : ¬ j * 4 + 3 = j * 4 + 0 := by omega
        have a2 : ¬ j * 4 + 2 = j * 4 + 0 := by omega
        have a3 : ¬ j * 4 + 1 = j * 4 + 0 := by omega
        have a4 : j * 4 < n * 4 := by omega
        simp [a4]
      · cases hu
        have a4 : j * 4 + 1 < n * 4 := by omega
        simp [a4]
      · cases hu
        have a4 : j * 4 + 2 < n * 4 := by omega
        simp [a4]
      · cases hu
        have a4 : j * 4 + 3 < n * 4 := by omega
        simp [a4]
      · omega
    · simp only [Array.getElem?_setIfInBounds]
      rw [if_neg (by omega), if_neg (by omega), if_neg (by omega), if_neg (by omega)]
      exact h4 j o' (by omega) ho' t u hu
theorem put4_fr {w : World} {g j : Nat} {o : OpR} : Fr (fun k => k = g) w (put4 w g j o) :=
  (((((Fr.refl (fun k => k = g) w).setCell (p := ⟨g, j * 4, none⟩) (.inl rfl) _).setCell (p := ⟨g, j * 4 + 1, none⟩) (.inl rfl) _).setCell (p := ⟨g, j * 4 + 2, none⟩) (.inl rfl) _).setCell (p := ⟨g, j * 4 + 3, none⟩) (.inl rfl) _)

/-- Programs of one's own: a row of slices, each a block of operations. -/
def sliceOf (g : Nat) (n : Nat) : Value := .slice (some ⟨g, 0, none⟩) n n
def valsOf (G : Nat → Nat) (ns : List Nat) : List Value := (List.range ns.length).map fun j => sliceOf (G j) (ns.getD j 0)
def progOf (G : Nat → Nat) (Q : List (List OpR)) : List PrR := (List.range Q.length).map fun j => ⟨some ⟨G j, 0, none⟩, (Q.getD j []).length, (Q.getD j []).length, Q.getD j []⟩
theorem progOf_ops (G : Nat → Nat) (Q : List (List OpR)) : ops (progOf G Q) = Q := by
  unfold ops progOf
  rw [List.map_map]
  apply List.ext_getElem (by simp)
  intro i h1 h2
  have hi : i < Q.length := h2
  simp [List.getD, List.getElem?_eq_getElem hi]
theorem progOf_len (G : Nat → Nat) (Q : List (List OpR)) : (progOf G Q).length = Q.length := by simp [progOf]
theorem progOf_progs {w : World} {base : Nat} {v : Value} {G : Nat → Nat} {Q : List (List OpR)} (hrow : w.ownsRow base 39 1 v Q.length (valsOf G (Q.map List.length))) (hO : ∀ j, j < Q.length → Ob w (G j) (Q.getD j []).length (Q.getD j []).length (Q.getD j [])) (hn : ∀ j, (Q.getD j []).length ≤ 1000) (hok : ∀ j o, o ∈ Q.getD j [] → o.ok) :
    ∃ ao cap, v = .slice ao Q.length cap ∧ Progs w ao Q.length cap (progOf G Q) := by
  have hins : ∀ p ∈ progOf G Q, Seq 4 OpR.cells w p.ao p.len p.cap p.ops ∧ ∀ o ∈ p.ops, o.ok := fun p hp => by
    obtain ⟨j, hj, rfl⟩ := List.mem_map.1 hp
    have hj2 : j < Q.length := by simpa using hj
    exact ⟨(hO j hj2).seq (hn j), fun o ho => hok j o ho⟩
  rcases hrow.2 with ⟨rfl, h0⟩ | ⟨g, cap, cur, rfl, hg, hh, r1, r2, r3, r4⟩
  · refine ⟨none, 0, by rw [h0], ⟨⟨by rw [progOf_len], by omega, Nat.zero_le _, fun hp => absurd hp (by omega)⟩, hins⟩⟩
  · have hown : w.ownsRow base 39 1 (.slice (some ⟨g, 0, none⟩) Q.length cap) Q.length (valsOf G (Q.map List.length)) := hrow
    refine ⟨_, cap, rfl, ⟨⟨by rw [progOf_len], r1, r2, fun hp => ⟨g, 0, rfl, (Array.getElem?_eq_some_iff.1 hh).1, fun i x hi j u hu => ?_⟩⟩, hins⟩⟩
    have hiQ : i < Q.length := by rw [← progOf_len G Q]; exact (List.getElem?_eq_some_iff.1 hi).1
    have ex : x = ⟨some ⟨G i, 0, none⟩, (Q.getD i []).length, (Q.getD i []).length, Q.getD i []⟩ := by
      simp [progOf, List.getElem?_range hiQ] at hi
      exact hi.symm
    rcases j with _ | j
    · subst ex
      simp only [PrR.cells, List.getElem?_cons_zero, Option.some.injEq] at hu
      subst hu
      have := hown.cellAt i (by omega)
      rw [show 0 + i * 1 + 0 = i by omega, this]
      have e : (Q.map List.length).getD i 0 = (Q.getD i []).length := by simp [List.getD, List.getElem?_eq_getElem hiQ]
      simp [valsOf, List.getElem?_range, hiQ, sliceOf]
    · cases hu
theorem valsOf_snoc (G G' : Nat → Nat) (ns : List Nat) (n g : Nat) (h : ∀ j, j < ns.length → G' j = G j) (hg : G' ns.length = g) : valsOf G' (ns ++ [n]) = valsOf G ns ++ [sliceOf g n] := by
  unfold valsOf
  rw [List.length_append, List.length_singleton, List.range_succ, List.map_append]
  congr 1
  · apply List.map_congr_left
    intro j hj
    have hj2 : j < ns.length := by simpa using hj
    rw [h j hj2]
    simp [List.getD, List.getElem?_append_left hj2]
  · simp [hg, List.getD]
theorem valsOf_len (G : Nat → Nat) (ns : List Nat) : (valsOf G ns).length = ns.length := by simp [valsOf]
theorem valsOf_at (G : Nat → Nat) (ns : List Nat) (i : Nat) (hi : i < ns.length) : (valsOf G ns)[i]? = some (sliceOf (G i) (ns.getD i 0)) := by simp [valsOf, List.getElem?_range hi]

theorem outs_below {w w' : World} {B r : Nat} {A : List (List Int)} {us : List Value} (h : Outs w B r A us) (hb : Below w.heap.size w w') : Outs w' B r A us :=
  { h with blk := (hb.block r (Array.getElem?_eq_some_iff.1 h.blk).1).trans h.blk, row := fun i => row_fr (G := fun _ => False) (h.row i) (Fr.below hb) (fun _ _ h => h) }
theorem outs_sl {w : World} {B r i : Nat} {A : List (List Int)} {us : List Value} (h : Outs w B r A us) (hi : i < A.length) : ∃ ao cap, us.getD i nilS = .slice ao (A.getD i []).length cap ∧ w.cell? ⟨r, i, none⟩ = some (.slice ao (A.getD i []).length cap) := by
  obtain ⟨ao, cap, e, -⟩ := row_ints (h.row i)
  have hiu : i < us.length := by rw [h.len]; exact hi
  refine ⟨ao, cap, e, ?_⟩
  rw [Go.Joins.cell_of_block h.blk, ← e]
  simp [List.getD, List.getElem?_eq_getElem hiu]

theorem infoBl : (Tryd.prog.info? 4).map (fun i => (i.zero, i.size, i.bytes)) = some (some (.bool false), 1, 1) := by kernel_rfl
/-- A block of flags. -/
def Bb (w : World) (g : Nat) (S : List Bool) : Prop := w.heap[g]? = some (.cells (S.map Value.bool).toArray 4 (0, 0))
theorem Bb.lt {w : World} {g : Nat} {S : List Bool} (h : Bb w g S) : g < w.heap.size := (Array.getElem?_eq_some_iff.1 h).1
theorem Bb.free {w : World} {g : Nat} {S : List Bool} (h : Bb w g S) (i : Nat) : w.frozen? ⟨g, i, none⟩ = false := Go.Joins.unfrozen_of_block h i
theorem Bb.cell {w : World} {g : Nat} {S : List Bool} (h : Bb w g S) (c : Nat) (hc : c < S.length) : w.cell? ⟨g, c, none⟩ = some (.bool (S.getD c false)) := by
  unfold Bb at h
  rw [Go.Joins.cell_of_block h]
  simp [List.getD, List.getElem?_eq_getElem hc]
theorem Bb.set {w : World} {g : Nat} {S : List Bool} (h : Bb w g S) (c : Nat) (x : Bool) : Bb (w.setCell ⟨g, c, none⟩ (.bool x)) g (S.set c x) := by
  unfold Bb at *
  rw [Go.Joins.block_setCell h]
  simp [List.map_set]
theorem mk_bl (n : Nat) (hn : n ≤ 65536) : ∃ Z : Array Value, Z = ((List.replicate n false).map Value.bool).toArray ∧ ∀ u : World, (Instr.makeSlice 43 (.int .i64 (n : Int)) (.int .i64 (n : Int))).run Tryd.prog u = .ok (.slice (some ⟨u.heap.size, 0, none⟩) n n) (u.alloc (.cells Z 4)) := by
  obtain ⟨i0, hi, hz0, hz1, hz2⟩ := info_parts infoBl
  refine ⟨_, rfl, fun u => ?_⟩
  have := run_make (P := Tryd.prog) u 43 4 i0 (.bool false) Tryd.underlying43 hi hz0 .i64 .i64 n n (by omega) (by omega) (by rw [hz2]; omega) (by omega)
  rw [this, hz1]
  have e : madeCells (Value.cells (Value.bool false)) n = ((List.replicate n false).map Value.bool).toArray := by
    apply Array.ext
    · simp [madeCells]
    · intro i h1 h2
      simp [madeCells, Value.cells, Nat.mod_one]
  simp only [Nat.mul_one, Int.toNat_natCast, e]

theorem wpList_append_eq {P : Program} {w : World} {ops : Array Oper} {rest : List Oper} {o : Oper} {a : Act} {Q : Exit → Act → World → Prop} (hgd : o.guard = none) (s x : Operand) (t : TypeId)
    (ho : o.op = .call { callee := .builtin .append, args := #[s, x], argTypes := #[t, t] }) (v xv v' : Value) (w' : World) (hs : a.eval s = v) (hx : a.eval x = xv)
    (hr : ∀ ty, (Builtin.append_ #[t, t] ty #[v, xv]).run P w = .ok v' w') (h : wpList P ops Q rest (a.put o.dst v') w') : wpList P ops Q (o :: rest) a w := by
  refine wpList_plain hgd fun K hK => ?_
  unfold Oper.wp
  simp [execOp, ho, resolve, invoke, builtin, hs, hx, hr, Result.andThen]
  exact hK _ _ h
theorem mk_zero (n : Nat) (hn : n ≤ 100000) : ∃ Z : Array Value, Z.size = n ∧ ∀ u : World, (Instr.makeSlice 23 (.int .i64 0) (.int .i64 (n : Int))).run Tryd.prog u = .ok (.slice (some ⟨u.heap.size, 0, none⟩) 0 n) (u.alloc (.cells Z 3)) := by
  obtain ⟨i0, hi, hz0, hz1, hz2⟩ := info_parts infoI
  refine ⟨madeCells (Value.cells (Value.int .i64 0)) n, by simp [madeCells], fun u => ?_⟩
  have := run_make (P := Tryd.prog) u 23 3 i0 (.int .i64 0) Tryd.underlying23 hi hz0 .i64 .i64 0 n (by omega) (by omega) (by rw [hz2]; omega) (by omega)
  rw [this, hz1]
  simp only [Nat.mul_one, Int.toNat_natCast]
  rfl
/-- append(make([]int, 0, n), xs...): a row of one's own, with what came in. -/
theorem copy_all {u : World} {base n cap : Nat} {Z : Array Value} {ao : Option Addr} {xs : List Int} (hZ : Z.size = n) (hb : base ≤ u.heap.size) (hn : n ≤ 100000) (hx : Ints .i64 u ao n cap xs) (hnil : ao = none → cap = 0) :
    ∃ v' w', (∀ ty, (Builtin.append_ #[23, 23] ty #[.slice (some ⟨u.heap.size, 0, none⟩) 0 n, .slice ao n cap]).run Tryd.prog (u.alloc (.cells Z 3)) = .ok v' w') ∧ w'.ownsRow base 3 1 v' n (xs.map (Value.int .i64)) ∧ Below u.heap.size u w' ∧ ∃ ao' cap', v' = .slice ao' n cap' := by
  obtain ⟨i0, hi0, z0, z1, z2⟩ := info_parts infoI
  have hown : (u.alloc (.cells Z 3)).ownsRow base 3 1 (.slice (some ⟨u.heap.size, 0, none⟩) 0 n) 0 [] :=
    ⟨rfl, .inr ⟨u.heap.size, n, Z, rfl, hb, heap_alloc_new _ _, Nat.zero_le _, by unfold maxLen; omega, by simp [hZ], by simp⟩⟩
  have hB0 : Below u.heap.size u (u.alloc (.cells Z 3)) := (Below.refl _ u).alloc (Nat.le_refl _) _
  have hx' := hx.keep hB0
  have hxl := hx.1
  cases ao with
  | none =>
    have hn0 : n = 0 := by
      rcases Nat.eq_zero_or_pos n with h | h
      · exact h
      · obtain ⟨b, off, e, -⟩ := hx.2.2.2 h
        cases e
    subst hn0
    obtain rfl := hnil rfl
    have hxs : xs = [] := List.eq_nil_of_length_eq_zero hxl
    subst hxs
    refine ⟨_, _, fun ty => run_append_owned_none (P := Tryd.prog) _ base 23 ty 3 i0 1 Tryd.underlying23 hi0 _ 0 [] hown, hown, hB0, _, _, rfl⟩
  | some a =>
    have hnews : ∀ j w0, (xs.map (Value.int .i64))[j]? = some w0 → (u.alloc (.cells Z 3)).cell? (a.add j) = some w0 := fun j w0 hj => by
      have hjl : j < n := by
        have := (List.getElem?_eq_some_iff.1 hj).1
        simp at this
        omega
      obtain ⟨b, off, e, hbl, hc⟩ := hx'.num (by omega)
      obtain rfl : a = ⟨b, off, none⟩ := Option.some.inj e
      rw [addr_add, hc j hjl]
      have hjx : j < xs.length := by omega
      simp [List.getElem?_map, List.getElem?_eq_getElem hjx] at hj
      simp [List.getD, List.getElem?_eq_getElem hjx, hj]
    have key := fun ty => run_append_own_at (P := Tryd.prog) (u.alloc (.cells Z 3)) base 23 ty 3 i0 (.int .i64 0) 1 8 Tryd.underlying23 hi0 z0 z1 z2 rfl (by decide) (.slice (some ⟨u.heap.size, 0, none⟩) 0 n) 0 [] hown a n cap (xs.map (Value.int .i64)) (by simp [hxl]) hnews (fun w0 hw0 => by
      obtain ⟨y, -, rfl⟩ := List.mem_map.1 hw0
      rfl) (by unfold maxLen; omega) (by omega) (by simp; omega)
    obtain ⟨v', w', h1, h2, h3, h4, h5⟩ := key 0
    have hty : ∀ ty, (Builtin.append_ #[23, 23] ty #[.slice (some ⟨u.heap.size, 0, none⟩) 0 n, .slice (some a) n cap]).run Tryd.prog (u.alloc (.cells Z 3)) = .ok v' w' := fun ty => by
      rw [← h1]
      rfl
    have hform : ∃ ao' cap', v' = .slice ao' n cap' := by
      rcases Go.Joins.ownsRow_forms h2 with ⟨e, e2⟩ | ⟨g2, c2, e⟩
      · exact ⟨none, 0, by rw [e, show n = 0 by omega]⟩
      · exact ⟨_, c2, by rw [e, Nat.zero_add]⟩
    refine ⟨v', w', hty, ?_, ?_, hform⟩
    · have := h2
      rw [Nat.zero_add, List.nil_append] at this
      exact this
    · refine hB0.trans ((Fr.grown (F := fun j => u.heap.size ≤ j) h3 (fun j e => ?_)).to (fun j hj => by omega) (by simp))
      have : some u.heap.size = some j := e
      have := Option.some.inj this
      omega
end Go.Proofs.YtnpmldlnckbppaaDoor
