/-
  Lf3: The paths of a graph, one by one: what (*Graph).paths goes through.
-/
import Derived.Test.YtafbchjmjfpilaaDoorLf2
import Derived.Test.YtafbchjmjfpilaaDoorLqL
import Derived.Great.BuildSlice
set_option linter.unusedVariables false
set_option linter.unusedSimpArgs false
namespace Go.Proofs.YtafbchjmjfpilaaDoor
open Go.RowKit Go.Shelf
attribute [local go_sem] Oper.semAt_some

/-- A graph in memory: of each worker for whom it waits. -/
def u16s (Wt : List Nat) : Array Value := (Wt.map fun x : Nat => Value.int .u16 (x : Int)).toArray
structure Gm (w : World) (d : Nat) (Wt : List Nat) : Prop where
  len : Wt.length = 16
  sm : ∀ i, Wt.getD i 0 < 65536
  blk : w.heap[d]? = some (.cells (u16s Wt) 49 (0, 0))
def gE (Wt : List Nat) (i k : Nat) : Bool := (Wt.getD i 0).testBit k

/-- What the paths lean on. -/
structure Ev (w : World) (d : Nat) (Wt : List Nat) (t Bw Bg : Nat) : Prop where
  tab : Tab w
  gm : Gm w d Wt
  bw : Boxed w Bw 3 (nv t)
  bg : Boxed w Bg 24 (.pointer (some ⟨d, 0, none⟩))

/-- All blocks but one are as they were. -/
structure Kl (l : Nat) (w w' : World) : Prop where
  size : w.heap.size ≤ w'.heap.size
  same : ∀ k, k ≠ l → k < w.heap.size → w'.heap[k]? = w.heap[k]?

section
variable {w w' : World} {d t Bw Bg l : Nat} {Wt : List Nat}
theorem Gm.lt (h : Gm w d Wt) : d < w.heap.size := (Array.getElem?_eq_some_iff.1 h.blk).1
theorem Gm.cell (h : Gm w d Wt) {i : Nat} (hi : i < 16) : w.cell? ⟨d, i, none⟩ = some (.int .u16 (Wt.getD i 0 : Nat)) := by
  have hl := h.len
  rw [Go.Joins.cell_of_block h.blk]
  simp [u16s, List.getD, List.getElem?_eq_getElem (show i < Wt.length by omega)]
theorem Gm.keep (h : Gm w d Wt) (hb : w'.heap[d]? = w.heap[d]?) : Gm w' d Wt := ⟨h.len, h.sm, hb.trans h.blk⟩
theorem Ev.keep (h : Ev w d Wt t Bw Bg) (hs : w.heap.size ≤ w'.heap.size) (hb : ∀ k, k = 0 ∨ k = d ∨ k = Bw ∨ k = Bg → w'.heap[k]? = w.heap[k]?) : Ev w' d Wt t Bw Bg := by
  refine ⟨⟨Nat.lt_of_lt_of_le h.tab.1 hs, fun j hj => ?_⟩, h.gm.keep (hb d (by simp)), (hb Bw (by simp)).trans h.bw, (hb Bg (by simp)).trans h.bg⟩
  exact (World.cell?_of_block (w := w) (a := ⟨0, j, none⟩) (hb 0 (by simp))).trans (h.tab.2 j hj)
theorem Ev.kl (h : Ev w d Wt t Bw Bg) (k : Kl l w w') (h0 : l ≠ 0) (h1 : l ≠ d) (h2 : l ≠ Bw) (h3 : l ≠ Bg) : Ev w' d Wt t Bw Bg :=
  h.keep k.size (fun x hx => by
    rcases hx with rfl | rfl | rfl | rfl
    · exact k.same _ (fun e => h0 e.symm) h.tab.1
    · exact k.same _ (fun e => h1 e.symm) h.gm.lt
    · exact k.same _ (fun e => h2 e.symm) h.bw.lt
    · exact k.same _ (fun e => h3 e.symm) h.bg.lt)
theorem Ev.below {n : Nat} (h : Ev w d Wt t Bw Bg) (k : Below n w w') (hn : 0 < n ∧ d < n ∧ Bw < n ∧ Bg < n) : Ev w' d Wt t Bw Bg :=
  h.keep k.size (fun x hx => by
    rcases hx with rfl | rfl | rfl | rfl
    · exact k.block _ hn.1
    · exact k.block _ hn.2.1
    · exact k.block _ hn.2.2.1
    · exact k.block _ hn.2.2.2)
theorem Qu.kl {base : Nat} {v : Value} {ps : List (List Nat)} (h : Qu w base v ps) (k : Kl l w w') (hl : l < base) : Qu w' base v ps := by
  obtain ⟨g, off, cap, cur, q⟩ := h
  exact ⟨g, off, cap, cur, q.keep (fun x hx hx2 => k.same x (by omega) hx2)⟩
theorem Hr.kl {base : Nat} {v : Value} {p : List Nat} (h : Hr w base v p) (k : Kl l w w') (hl : l < base) : Hr w' base v p := by
  refine ⟨h.1, ?_⟩
  rcases h.2 with q | ⟨g, cap, cur, e, hbs, hg, r⟩
  · exact .inl q
  · exact .inr ⟨g, cap, cur, e, hbs, (k.same g (by omega) (Array.getElem?_eq_some_iff.1 hg).1).trans hg, r⟩
end



theorem nodup_map_inj {α : Type} {f : α → Nat} : ∀ {l : List α}, (l.map f).Nodup → ∀ {a b : α}, a ∈ l → b ∈ l → f a = f b → a = b := by
  intro l
  induction l with
  | nil => intro _ a b ha; cases ha
  | cons c l ih =>
    intro h a b ha hb e
    have h' := List.nodup_cons.1 (by simpa using h : (f c :: l.map f).Nodup)
    rcases List.mem_cons.1 ha with q | q
    · rcases List.mem_cons.1 hb with r | r
      · rw [q, r]
      · exact absurd (by rw [← q, e]; exact List.mem_map.2 ⟨b, r, rfl⟩) h'.1
    · rcases List.mem_cons.1 hb with r | r
      · exact absurd (by rw [← r, ← e]; exact List.mem_map.2 ⟨a, q, rfl⟩) h'.1
      · exact ih h'.2 q r e
/-- A path has at most sixteen. -/
theorem bf_nd {E : Nat → Nat → Bool} {t : Nat} {pop que : List (List Nat)} (h : Lk.Bf E t pop que) : ∀ (n : Nat) (x : List Nat), x.length = n → x ∈ pop ++ que → x.Nodup ∧ ∀ e ∈ x, ∃ y ∈ pop ++ que, Lk.las y = e ∧ y.length ≤ x.length := by
  intro n
  induction n with
  | zero => intro x hn hx; exact absurd (List.length_eq_zero_iff.1 hn) (h.ne hx)
  | succ n ih =>
    intro x hn hx
    rcases h.frm x hx with rfl | ⟨y, k, rfl, hy, he, hk, hkt⟩
    · exact ⟨by simp, fun e he => ⟨[t], hx, by rw [List.mem_singleton.1 he]; rfl, Nat.le_refl _⟩⟩
    · have hy2 : y ∈ pop ++ que := List.mem_append_left _ hy
      obtain ⟨nd, hall⟩ := ih y (by simpa using hn) hy2
      refine ⟨List.nodup_append.2 ⟨nd, by simp, fun a ha b hb e => ?_⟩, fun e he => ?_⟩
      · rw [List.mem_singleton.1 hb] at e
        subst e
        obtain ⟨z, hz, hzl, hzn⟩ := hall a ha
        have e2 : z = y ++ [a] := nodup_map_inj h.one hz hx (by rw [hzl, Lk.las_snoc])
        rw [e2] at hzn
        simp at hzn
        omega
      · rcases List.mem_append.1 he with q | q
        · obtain ⟨z, hz, hzl, hzn⟩ := hall e q
          exact ⟨z, hz, hzl, by simp; omega⟩
        · rw [List.mem_singleton.1 q]
          exact ⟨_, hx, Lk.las_snoc _ _, Nat.le_refl _⟩
theorem bf_len {E : Nat → Nat → Bool} {t : Nat} {pop que : List (List Nat)} (h : Lk.Bf E t pop que) (ht : t < 16) {x : List Nat} (hx : x ∈ pop ++ que) : x.length ≤ 16 := by
  obtain ⟨nd, hall⟩ := bf_nd h x.length x rfl hx
  have := Lk.nodup_le16 x (List.range 16) nd (fun e he => by
    obtain ⟨y, hy, rfl, _⟩ := hall e he
    exact List.mem_range.2 (h.short ht y hy))
  simpa using this
theorem las_get {p : List Nat} {m : Nat} (h : p.length = m + 1) : p.getD m 0 = Lk.las p := by
  unfold Lk.las
  have hne : p ≠ [] := fun e => by subst e; simp at h
  rw [List.getLastD_eq_getLast?, List.getLast?_eq_getElem?, h]
  simp [List.getD]

/-- What is no memory is as it was. -/
def Io (w w' : World) : Prop := w'.os = w.os ∧ w'.tape = w.tape ∧ w'.output = w.output
theorem Io.trans {a b c : World} (h : Io a b) (k : Io b c) : Io a c := ⟨k.1.trans h.1, k.2.1.trans h.2.1, k.2.2.trans h.2.2⟩
theorem Io.below {n : Nat} {a b : World} (h : Below n a b) : Io a b := ⟨h.os, h.tape, h.output⟩
theorem Io.grown {a b : World} {r : Option Nat} (h : a.grownBy b r) : Io a b := ⟨h.os, h.tape, h.output⟩
/-- Cells are as they were; so is all that lies below. -/
structure Kc (base : Nat) (w w' : World) : Prop where
  size : w.heap.size ≤ w'.heap.size
  low : ∀ k, k < base → w'.heap[k]? = w.heap[k]?
  cell : ∀ (k : Nat) (cs : Array Value) (ty : TypeId) (f : Nat × Nat), w.heap[k]? = some (Obj.cells cs ty f) → w'.heap[k]? = w.heap[k]?
  io : Io w w'
section
variable {w w' w'' : World} {base : Nat}
theorem Kc.refl (base : Nat) (w : World) : Kc base w w := ⟨Nat.le_refl _, fun _ _ => rfl, fun _ _ _ _ _ => rfl, ⟨rfl, rfl, rfl⟩⟩
theorem Kc.trans (h : Kc base w w') (k : Kc base w' w'') : Kc base w w'' :=
  ⟨Nat.le_trans h.size k.size, fun x hx => (k.low x hx).trans (h.low x hx), fun x cs ty f hx => (k.cell x cs ty f ((h.cell x cs ty f hx).trans hx)).trans (h.cell x cs ty f hx), h.io.trans k.io⟩
theorem Kc.grown {row : Option Nat} (hg : w.grownBy w' row) (hb : base ≤ w.heap.size) (hr : ∀ r, row = some r → base ≤ r ∧ ∃ o : Obj, w.heap[r]? = some o ∧ o.isCells = false) : Kc base w w' :=
  ⟨hg.size, fun x hx => hg.block x (by omega) (fun e => by have := (hr x e.symm).1; omega), fun x cs ty f hx => hg.block x (Array.getElem?_eq_some_iff.1 hx).1 (fun e => by
    obtain ⟨_, o, ho, hc⟩ := hr x e.symm
    rw [hx] at ho; cases ho; cases hc), Io.grown hg⟩
theorem Kc.put {D : Nat} {o o' : Obj} (ho : w.heap[D]? = some o) (hc : o.isCells = false) (hD : base ≤ D) (hb : base ≤ w.heap.size) : Kc base w (w.putObj D o') :=
  Kc.grown (grownBy_putObj' w D o') hb (fun r e => by cases e; exact ⟨hD, o, ho, hc⟩)
theorem Kc.hr {v : Value} {p : List Nat} {b : Nat} (k : Kc base w w') (h : Hr w b v p) : Hr w' b v p := h.block (fun g cur hg => k.cell g cur 3 (0, 0) hg)
theorem Kc.qu {v : Value} {ps : List (List Nat)} {b : Nat} (k : Kc base w w') (h : Qu w b v ps) : Qu w' b v ps := by
  obtain ⟨g, off, cap, cur, q⟩ := h
  refine ⟨g, off, cap, cur, q.eq, q.lo, (k.cell g _ _ _ q.blk).trans q.blk, q.fit, q.le, q.mx, fun i p hi => ?_⟩
  obtain ⟨x, a, b, c⟩ := q.el i p hi
  exact ⟨x, a, b, k.hr c⟩
theorem Kc.boxed {B : Nat} {ty : TypeId} {v : Value} (k : Kc base w w') (h : Boxed w B ty v) : Boxed w' B ty v := (k.cell B _ _ _ h).trans h
theorem Kc.below (k : Kc base w w') (h : Below base w w') : True := trivial
end

/-- Marks that the function's end goes through. -/
def mk (D : Nat) : Deferred := { target := .collected D, args := #[] }
structure Mk (base : Nat) (w : World) (Ds : List Nat) : Prop where
  nd : Ds.Nodup
  at_ : ∀ D ∈ Ds, base ≤ D ∧ w.heap[D]? = some (.deferred (some []))
theorem Mk.kc {base base' : Nat} {w w' : World} {Ds : List Nat} (h : Mk base w Ds) (hb : ∀ D, base ≤ D → D < w.heap.size → w.heap[D]? = some (.deferred (some [])) → w'.heap[D]? = w.heap[D]?) : Mk base w' Ds :=
  ⟨h.nd, fun D hD => ⟨(h.at_ D hD).1, (hb D (h.at_ D hD).1 (Array.getElem?_eq_some_iff.1 (h.at_ D hD).2).1 (h.at_ D hD).2).trans (h.at_ D hD).2⟩⟩

theorem leave_marks {P : Program} {n base : Nat} {fn : Func} {tmps : Array Value} {R : Ending → World → Prop} {v : Value} : ∀ (Ds : List Nat) (w : World), Mk base w Ds → base ≤ w.heap.size → (∀ w', Kc base w w' → (results fn tmps).run P w' = .ok v w' ∧ R (.returned v) w') →
    LeavesInM Fence.wide n P fn tmps R (Ds.map mk) .returning w := by
  intro Ds
  induction Ds with
  | nil =>
    intro w _ _ h
    have := h w (Kc.refl _ _)
    exact ⟨v, this.1, this.2⟩
  | cons D Ds ih =>
    intro w hM hb h
    have hD := hM.at_ D List.mem_cons_self
    have hk : Kc base w (w.putObj D (.deferred none)) := Kc.put hD.2 rfl hD.1 hb
    refine ⟨by simp, .inl ⟨_, _, rfl, run_takeDeferred hD.2, ih _ ⟨(List.nodup_cons.1 hM.nd).2, fun D' hD' => ?_⟩ (by simpa using hb) (fun w' k => h w' (hk.trans k))⟩⟩
    have hne : D' ≠ D := fun e => (List.nodup_cons.1 hM.nd).1 (by rw [← e]; exact hD')
    exact ⟨(hM.at_ D' (List.mem_cons_of_mem _ hD')).1, (World.putObj_heap_other hne).trans (hM.at_ D' (List.mem_cons_of_mem _ hD')).2⟩


theorem step_buildSlice {P : Program} {ops : Array Oper} {o : Oper} {a : Act} {w : World} {K : Act → World → Prop} {Q : Exit → Act → World → Prop} {E : Prop} (hg : o.guard = none) (t e : TypeId) (len : Nat) (parts : Array (Nat × Operand)) (ho : o.op = .buildSlice t len parts) (cells : Array Value) (ie : TypeInfo) (z : Value) (hu : P.underlying t = some (.slice e)) (hi : P.info? e = some ie) (hz : ie.zero = some z) (size : Nat) (hsz : ie.size = size) (hsmall : ¬ len * size > 2 ^ 24) (hpos : ¬ len * size = 0)
    (hf : Instr.fill (fun i => some (i * size, size)) ((Array.range (len * size)).map (z.cells[· % z.cells.size]!)) (parts.map fun (i, x) => (i, a.eval x)).toList = some cells)
    (h : K (a.put o.dst (.slice (some ⟨w.heap.size, 0, none⟩) len len)) (w.alloc (.cells cells e))) : if Region.wanted o (yielded ops a.tmps) = true then Oper.wp P o a w K Q else E := by
  have hw : Region.wanted o (yielded ops a.tmps) = true := by simp [Region.wanted, hg]
  rw [if_pos hw]
  subst hsz
  exact wp_buildSlice t e len parts ho cells ie z hu hi hz hsmall hpos hf h
theorem step_append {P : Program} {ops : Array Oper} {o : Oper} {a : Act} {w w' : World} {K : Act → World → Prop} {Q : Exit → Act → World → Prop} {E : Prop} (hg : o.guard = none) (s x : Operand) (t tn : TypeId) (ho : o.op = .call { callee := .builtin .append, args := #[s, x], argTypes := #[t, tn] }) (vs vx v' : Value) (hs : a.eval s = vs) (hx : a.eval x = vx)
    (hr : (Builtin.append_ #[t, tn] o.type #[vs, vx]).run P w = .ok v' w') (h : K (a.put o.dst v') w') : if Region.wanted o (yielded ops a.tmps) = true then Oper.wp P o a w K Q else E := by
  have hw : Region.wanted o (yielded ops a.tmps) = true := by simp [Region.wanted, hg]
  rw [if_pos hw]
  exact Lib.wp_append_run w s x t tn ho vs vx hs hx v' w' hr h
/-- What is no cells is as it was. -/
structure Kn (w w' : World) : Prop where
  size : w.heap.size ≤ w'.heap.size
  same : ∀ (k : Nat) (o : Obj), w.heap[k]? = some o → o.isCells = false → w'.heap[k]? = some o
theorem Kn.trans {a b c : World} (h : Kn a b) (k : Kn b c) : Kn a c := ⟨Nat.le_trans h.size k.size, fun x o hx ho => k.same x o (h.same x o hx ho) ho⟩
theorem Kn.all {a b : World} (hs : a.heap.size ≤ b.heap.size) (h : ∀ k, k < a.heap.size → b.heap[k]? = a.heap[k]?) : Kn a b := ⟨hs, fun k o hk _ => (h k (Array.getElem?_eq_some_iff.1 hk).1).trans hk⟩
theorem Kn.grown {a b : World} {r : Nat} {cs : Array Value} {ty : TypeId} {f : Nat × Nat} (hg : a.grownBy b (some r)) (hr : a.heap[r]? = some (Obj.cells cs ty f)) : Kn a b := ⟨hg.size, fun k o hk ho => (hg.block k (Array.getElem?_eq_some_iff.1 hk).1 (fun e => by cases e; rw [hr] at hk; cases hk; cases ho)).trans hk⟩

section
set_option maxHeartbeats 4000000
set_option maxRecDepth 100000
theorem paths1_in (l Bw Bg d t : Nat) (Wt : List Nat) (ht : t < 16) (W : World) (hE : Ev W d Wt t Bw Bg) (hlow : l < W.heap.size ∧ 0 < W.heap.size ∧ d < W.heap.size ∧ Bw < W.heap.size ∧ Bg < W.heap.size) (h0 : l ≠ 0) (h1 : l ≠ d) (h2 : l ≠ Bw) (h3 : l ≠ Bg)
    (J : World → Prop) (Jx : List Nat → Value → World → Prop) (hJ : ∀ A B, J A → (∀ k, k < W.heap.size → B.heap[k]? = A.heap[k]?) → Io A B → J B) (hJx : ∀ p v A B, Jx p v A → Kc W.heap.size A B → Jx p v B)
    (hY : ∀ p v A, J A → Ev A d Wt t Bw Bg → Hr A W.heap.size v p → 0 < p.length → p.length ≤ 16 → Lk.las p < 16 → YieldAt Fence.wide 4 Tryd.prog l #[v] A fun e A' =>
      (e = .returned (.bool true) ∧ gE Wt (Lk.las p) t = false ∧ J A' ∧ Kl l A A') ∨ (e = .returned (.bool false) ∧ gE Wt (Lk.las p) t = true ∧ Jx p v A' ∧ A.heap.size ≤ A'.heap.size ∧ ∀ k, W.heap.size ≤ k → k < A.heap.size → A'.heap[k]? = A.heap[k]?))
    (hJ0 : J W) :
    CallsIn Fence.wide 5 Tryd.prog 22 #[.func (.yield l) #[] #[], .pointer (some ⟨Bw, 0, none⟩), .pointer (some ⟨Bg, 0, none⟩)] W fun e W' => (∃ v, e = .returned v) ∧
      ((Lk.cyc (gE Wt) t = none ∧ J W') ∨ (∃ p v, Lk.cyc (gE Wt) t = some p ∧ Jx p v W')) := by
  have cw := hE.bw.cell
  have HO := hide2 (fun w => only_any t ht w)
  have b1 := (((hE.bw).alloc (.cells #[.int .i64 (t : Int)] 3)).alloc (.cells #[.slice (some ⟨W.heap.size, 0, none⟩) 1 1] 33)).alloc (.cells #[.slice (some ⟨W.heap.size + 1, 0, none⟩) 1 1] 64)
  have cw3 := b1.cell
  have bQ := Boxed.new ((W.alloc (.cells #[.int .i64 (t : Int)] 3)).alloc (.cells #[.slice (some ⟨W.heap.size, 0, none⟩) 1 1] 33)) 64 (.slice (some ⟨W.heap.size + 1, 0, none⟩) 1 1)
  have bA := (Boxed.new (W.alloc (.cells #[.int .i64 (t : Int)] 3)) 33 (.slice (some ⟨W.heap.size, 0, none⟩) 1 1)).alloc (.cells #[.slice (some ⟨W.heap.size + 1, 0, none⟩) 1 1] 64)
  have bT := ((Boxed.new W 3 (.int .i64 (t : Int))).alloc (.cells #[.slice (some ⟨W.heap.size, 0, none⟩) 1 1] 33)).alloc (.cells #[.slice (some ⟨W.heap.size + 1, 0, none⟩) 1 1] 64)
  simp only [World.size_alloc] at bQ bA bT
  have B3 : Below W.heap.size W (((W.alloc (.cells #[.int .i64 (t : Int)] 3)).alloc (.cells #[.slice (some ⟨W.heap.size, 0, none⟩) 1 1] 33)).alloc (.cells #[.slice (some ⟨W.heap.size + 1, 0, none⟩) 1 1] 64)) := (below2 W _ _).alloc (by simp; omega) _
  have BQ := hide2 bQ
  have BA := hide2 bA
  have BT := hide2 bT
  have HB3 := hide2 B3
  unfold nv at cw cw3
  clear b1 bQ bA bT B3
  refine callsIn_of_wp_marks Tryd.func22 rfl trivial ?_ rfl
  simp only [Tryd.ntmps22, List.size_toArray, List.length_cons, List.length_nil, Nat.reduceAdd, Nat.reduceSub, Array.replicate_succ, Array.replicate_zero, List.push_toArray, List.append_toArray, List.nil_append, List.cons_append]
  gi_wp2
  refine ⟨trivial, ?_⟩
  refine (callsIn_wide.2 (HO.out _)).mono ?_
  rintro e w1 ⟨rfl, rfl⟩
  obtain ⟨W1, hW1⟩ : ∃ X, ((W.alloc (.cells #[.int .i64 (t : Int)] 3)).alloc (.cells #[.slice (some ⟨W.heap.size, 0, none⟩) 1 1] 33)).alloc (.cells #[.slice (some ⟨W.heap.size + 1, 0, none⟩) 1 1] 64) = X := ⟨_, rfl⟩
  rw [hW1] at BQ BA BT HB3 cw3 ⊢
  have hs1 : W1.heap.size = W.heap.size + 3 := by rw [← hW1]; simp
  clear hW1
  have hE1 := hE.below HB3.out ⟨hlow.2.1, hlow.2.2.1, hlow.2.2.2.1, hlow.2.2.2.2⟩
  have hr0 : Hr W1 W.heap.size (.slice (some ⟨W.heap.size, 0, none⟩) 1 1) [t] := ⟨rfl, .inr ⟨W.heap.size, 1, _, rfl, Nat.le_refl _, BT.out, Nat.le_refl _, by unfold maxLen; decide, rfl, rfl⟩⟩
  have hq0 : Qu W1 W.heap.size (.slice (some ⟨W.heap.size + 1, 0, none⟩) 1 1) [[t]] := ⟨W.heap.size + 1, 0, 1, _, rfl, by omega, BA.out, Nat.le_refl _, Nat.le_refl _, by unfold maxLen; decide, fun i p hi => by
    cases i with
    | zero => simp at hi; subst hi; exact ⟨_, rfl, rfl, hr0⟩
    | succ i => simp at hi⟩
  have hpow := pow16_lt ht
  have START : Hid ((([] : List Nat)).length = ([] : List (List Nat)).length ∧ 2 ^ t < 65536 ∧ Lk.Bf (gE Wt) t [] [[t]] ∧ (∀ k, k < 16 → ((2 ^ t).testBit k = true ↔ k ∈ (([] : List (List Nat)) ++ [[t]]).map Lk.las)) ∧ (∀ y ∈ ([] : List (List Nat)), gE Wt (Lk.las y) t = false) ∧ Boxed W1 (W.heap.size + 1 + 1) 64 (.slice (some ⟨W.heap.size + 1, 0, none⟩) 1 1) ∧ Qu W1 W.heap.size (.slice (some ⟨W.heap.size + 1, 0, none⟩) 1 1) [[t]] ∧ J W1 ∧ Ev W1 d Wt t Bw Bg ∧ Mk W.heap.size W1 [] ∧ W.heap.size + 3 ≤ W1.heap.size) := hide2 ⟨rfl, hpow, Lk.Bf.start _ _, (fun k hk => by
      rw [Nat.testBit_two_pow]; simp [Lk.las]; exact eq_comm), (fun y hy => (by cases hy)), BQ.out, hq0, hJ _ _ hJ0 (fun k hk => HB3.out.block k hk) (Io.below HB3.out), hE1, ⟨List.nodup_nil, fun D hD => (by cases hD)⟩, by omega⟩
  clear hr0 hq0 hE1 BQ BA BT HB3 cw cw3 hE hJ0 HO hpow
  generalize 2 ^ t = qt at *
  gi_wp2
  refine wpIn_loop (fun a w' => ∃ u6 u7 u8 u9 u10 u11 u12 u13 u14 u15 u16 u17 u18 u19 u20 u21 u22 u23 u24 u25 u26 u27 u28 u29 u30 u31 u32 u33 u34 u35 u36 u37 u38 u39 u40 u41 u42 u43 u44 u45 u46 u47 u48 u49 u50 u51 u52 : Value, ∃ (R : Nat) (pop que : List (List Nat)) (v : Value) (Ds : List Nat), a = { tmps := #[.func (.yield l) #[] #[], .pointer (some ⟨Bw, 0, none⟩), .pointer (some ⟨Bg, 0, none⟩), undef, .pointer (some ⟨W.heap.size + 1 + 1, 0, none⟩), .int .u16 (R : Int), u6, u7, u8, u9, u10, u11, u12, u13, u14, u15, u16, u17, u18, u19, u20, u21, u22, u23, u24, u25, u26, u27, u28, u29, u30, u31, u32, u33, u34, u35, u36, u37, u38, u39, u40, u41, u42, u43, u44, u45, u46, u47, u48, u49, u50, u51, u52], defers := Ds.map mk } ∧ Hid (Ds.length = pop.length ∧ R < 65536 ∧ Lk.Bf (gE Wt) t pop que ∧ (∀ k, k < 16 → (R.testBit k = true ↔ k ∈ (pop ++ que).map Lk.las)) ∧ (∀ y ∈ pop, gE Wt (Lk.las y) t = false) ∧ Boxed w' (W.heap.size + 1 + 1) 64 v ∧ Qu w' W.heap.size v que ∧ J w' ∧ Ev w' d Wt t Bw Bg ∧ Mk W.heap.size w' Ds ∧ W.heap.size + 3 ≤ w'.heap.size)) (fun a _ => 17 - a.defers.length) ?_ ?_
  · exact ⟨_, _, _, _, _, _, _, _, _, _, _, _, _, _, _, _, _, _, _, _, _, _, _, _, _, _, _, _, _, _, _, _, _, _, _, _, _, _, _, _, _, _, _, _, _, _, _, _, _, _, _, [], rfl, START⟩
  · rintro a w ⟨u6, u7, u8, u9, u10, u11, u12, u13, u14, u15, u16, u17, u18, u19, u20, u21, u22, u23, u24, u25, u26, u27, u28, u29, u30, u31, u32, u33, u34, u35, u36, u37, u38, u39, u40, u41, u42, u43, u44, u45, u46, u47, u48, u49, u50, u51, u52, R, pop, que, v, Ds, rfl, HI⟩
    cases que with
    | nil =>
      obtain ⟨hDs, hR, hBf, hRe, hno, hbq, ⟨g, off, cap, cur, hQ⟩, hj, hev, hmk, hsz⟩ := HI.out
      have c1 := hbq.cell
      rw [hQ.eq] at c1
      gi_wp2
      exact leave_marks Ds w hmk (by omega) (fun w' k => ⟨results_none rfl _ _ _, ⟨_, rfl⟩, .inl ⟨hBf.none hno, hJ _ _ hj (fun x hx => k.low x hx) k.io⟩⟩)
    | cons p que =>
      obtain ⟨hDs, hR, hBf, hRe, hno, hbq, ⟨g, off, cap, cur, hQ⟩, hj, hev, hmk, hsz⟩ := HI.out
      obtain ⟨x, hx0, hx1, hxr⟩ := hQ.el 0 p rfl
      obtain ⟨ax, cx, rfl, hcx⟩ := hxr.form
      have c1 := hbq.cell
      have f1 := hbq.frozen
      rw [hQ.eq, List.length_cons] at c1
      have c2 : w.cell? ⟨g, off, none⟩ = some (.slice ax p.length cx) := by have := hQ.cell 0; rw [hx0] at this; simpa using this
      have hfew := hBf.few ht
      have hshort := hBf.short ht p (List.mem_append_right _ List.mem_cons_self)
      have hpne : p ≠ [] := hBf.ne (List.mem_append_right _ List.mem_cons_self)
      have hle := hQ.le
      have hmx := hQ.mx
      unfold maxLen at hmx
      simp only [List.length_cons] at hle hfew
      have d0 : (0 : Int) < ((que.length + 1 : Nat) : Int) := by omega
      obtain ⟨vt, hvt, hQt⟩ : ∃ vt, (vt = if cap = 1 then Value.slice (some ⟨g, off, none⟩) que.length 0 else .slice (some ⟨g, off + 1, none⟩) que.length (cap - 1)) ∧ Qu w W.heap.size vt que := by
        refine ⟨_, rfl, ?_⟩
        by_cases hc : cap = 1
        · rw [if_pos hc]
          have : que = [] := List.length_eq_zero_iff.1 (by omega)
          subst this
          exact ⟨g, off, 0, cur, rfl, hQ.lo, hQ.blk, by have := hQ.fit; omega, Nat.le_refl _, Nat.zero_le _, fun i p hi => (by simp at hi)⟩
        · rw [if_neg hc]; exact ⟨g, off + 1, cap - 1, cur, hQ.tail⟩
      have HBF := hide2 hBf
      have HRE := hide2 hRe
      have HNO := hide2 hno
      have HBQ := hide2 hbq
      have HQT := hide2 hQt
      have HXR := hide2 hxr
      have HJ := hide2 hj
      have HEV := hide2 hev
      have HMK := hide2 hmk
      have HDS := hide2 hDs
      clear HI hBf hRe hno hbq hQt hxr hj hev hmk hDs hx0
      have bq2 := HBQ.out.alloc (.cells #[.slice ax p.length cx] 33)
      rw [hQ.eq, List.length_cons] at bq2
      have c1a := bq2.cell
      have f1a := bq2.frozen
      have bp2 := Boxed.new w 33 (.slice ax p.length cx)
      have hneB : W.heap.size + 1 + 1 ≠ w.heap.size := by omega
      have hgne : g ≠ W.heap.size + 1 + 1 := fun e => by
        have := hQ.blk
        rw [e, show w.heap[W.heap.size + 1 + 1]? = _ from HBQ.out] at this
        injection this with e1; injection e1 with _ e2; exact absurd e2 (by decide)
      obtain ⟨A, hA⟩ : ∃ A, (w.alloc (.cells #[.slice ax p.length cx] 33)).setCell ⟨W.heap.size + 1 + 1, 0, none⟩ vt = A := ⟨_, rfl⟩
      have hAs : A.heap.size = w.heap.size + 1 := by rw [← hA]; simp [World.setCell]
      have hAk : ∀ k, k ≠ W.heap.size + 1 + 1 → k < w.heap.size → A.heap[k]? = w.heap[k]? := fun k hk hk2 => by
        rw [← hA]; exact (Below.heap_setCell _ _ _ k hk).trans (Below.heap_alloc _ _ k hk2)
      have hAQ : Boxed A (W.heap.size + 1 + 1) 64 vt := by rw [← hA]; exact bq2.set vt
      have hAP : Boxed A w.heap.size 33 (.slice ax p.length cx) := by rw [← hA]; exact bp2.other (fun e => hneB e.symm) vt
      have hQb := HBQ.out
      have hAkc : ∀ (k : Nat) (cs : Array Value) (ty : TypeId), ty ≠ 64 → w.heap[k]? = some (Obj.cells cs ty (0, 0)) → A.heap[k]? = w.heap[k]? := fun k cs ty hty hk => hAk k (fun e => by
        rw [e, show w.heap[W.heap.size + 1 + 1]? = _ from hQb] at hk; injection hk with e1; injection e1 with _ e2; exact hty e2.symm) (Array.getElem?_eq_some_iff.1 hk).1
      have HAHR : Hid (Hr A W.heap.size (.slice ax p.length cx) p) := hide2 (HXR.out.block (fun g cur hg => hAkc g cur 3 (by decide) hg))
      have HAQU : Hid (Qu A W.heap.size vt que) := hide2 (by
        obtain ⟨g', off', cap', cur', q⟩ := HQT.out
        refine ⟨g', off', cap', cur', q.eq, q.lo, (hAkc g' cur' _ (by decide) q.blk).trans q.blk, q.fit, q.le, q.mx, fun i p hi => ?_⟩
        obtain ⟨y, a1, a2, a3⟩ := q.el i p hi
        exact ⟨y, a1, a2, a3.block (fun g cur hg => hAkc g cur 3 (by decide) hg)⟩)
      have HAJ : Hid (J A) := hide2 (hJ _ _ HJ.out (fun k hk => hAk k (by omega) (by omega)) (by rw [← hA]; exact ⟨rfl, rfl, rfl⟩))
      have HAEV : Hid (Ev A d Wt t Bw Bg) := hide2 (HEV.out.keep (by omega) (fun k hk => hAk k (by rcases hk with rfl | rfl | rfl | rfl <;> omega) (by rcases hk with rfl | rfl | rfl | rfl <;> omega)))
      have HAMK : Hid (Mk W.heap.size A Ds) := hide2 (HMK.out.kc (base' := 0) (fun D hD hD2 hD3 => hAk D (fun e => by rw [e, show w.heap[W.heap.size + 1 + 1]? = _ from hQb] at hD3; cases hD3) hD2))
      obtain ⟨fn, tmps, assign, body, hy, hRound⟩ := hY p _ A HAJ.out HAEV.out HAHR.out (List.length_pos_iff.2 hpne) (bf_len HBF.out ht (List.mem_append_right _ List.mem_cons_self)) hshort
      have HROUND := hide2 hRound
      have HAK := hide2 hAk
      have HAQB := hide2 hAQ
      have HAPB := hide2 hAP
      have HA := hide2 hA
      clear hRound hAk hAQ hAP hAkc hA hQb HQT HXR HJ HEV HMK HBQ bq2 bp2
      have hwalk : vt = (if cap = 1 then Value.slice (some ⟨g, off, none⟩) que.length 0 else .slice (some ⟨g, off + 1, none⟩) que.length (cap - 1)) := hvt
      by_cases hcap : cap = 1
      · rw [if_pos hcap] at hvt
        subst hcap
        have hq0 : que.length = 0 := by omega
        rw [hq0] at hvt
        have HQ0 := hide2 hq0
        clear hq0
        have HQ := hide2 hQ
        clear hQ hwalk
        gi_wp2
        have hA := HA.out
        rw [hvt] at hA
        rw [hA, hy]
        clear hA
        refine ⟨fun q => (by cases q), ?_⟩
        refine HROUND.out.mono ?_
        rintro e X (⟨rfl, hback, hJX, hKX⟩ | ⟨rfl, hback, hJX, hKX⟩)
        · have HXQ := hide2 (HAQU.out.kl hKX hlow.1)
          have HXH := hide2 (HAHR.out.kl hKX hlow.1)
          have HXE := hide2 (HAEV.out.kl hKX h0 h1 h2 h3)
          have HXM : Hid (Mk W.heap.size X Ds) := hide2 (HAMK.out.kc (base' := 0) (fun D hD hD2 _ => hKX.same D (by omega) hD2))
          have bXQ : Boxed X (W.heap.size + 1 + 1) 64 vt := (hKX.same _ (by omega) HAQB.out.lt).trans HAQB.out
          have bXP : Boxed X w.heap.size 33 (.slice ax p.length cx) := (hKX.same _ (by omega) HAPB.out.lt).trans HAPB.out
          have HXJ := hide2 hJX
          have hXs : W.heap.size + 4 ≤ X.heap.size := by have := hKX.size; omega
          have hwlt : w.heap.size < X.heap.size := by have := hKX.size; omega
          have HBACK := hide2 hback
          have HBXQ := hide2 bXQ
          have HBXP := hide2 bXP
          have hplen := bf_len HBF.out ht (List.mem_append_right _ List.mem_cons_self)
          have hplen0 := List.length_pos_iff.2 hpne
          obtain ⟨gp, eax, hgp, hgpl, hpc⟩ := HXH.out.cell hplen0
          subst eax
          obtain ⟨m, hm⟩ : ∃ m, p.length = m + 1 := ⟨p.length - 1, by omega⟩
          have q1 := HXE.out.bg.cell
          have q2 := bXP.cell
          have q3 : X.cell? ⟨gp, m, none⟩ = some (.int .i64 (Lk.las p : Int)) := by have := hpc m (by omega); rw [las_get hm] at this; exact this
          have q4 := HXE.out.gm.cell hshort
          have hnx := HXE.out.gm.sm (Lk.las p)
          have hdl : (Lk.las p : Int) < 16 := by omega
          rw [hm] at q2
          have hsub : (m : Int) + 1 - 1 = (m : Int) := by omega
          have hnr := andNot16 hnx hR
          have hor := or16 hR hnx
          have HM := hide2 hm
          have HGE : Hid (∀ k, gE Wt (Lk.las p) k = (Wt.getD (Lk.las p) 0).testBit k) := hide2 (fun k => rfl)
          clear hpc bXQ bXP hJX hback hKX HAQU HAHR HAEV HAMK HAQB HAPB HAK HA HAJ HROUND hy
          rw [hm]
          generalize elas : Lk.las p = lp at *
          generalize enx : Wt.getD lp 0 = nx at *
          generalize ewo : wo nx R = so at *
          generalize eor : R ||| nx = ro at *
          have HLAS := hide2 elas
          have HWO := hide2 ewo
          have HOR := hide2 eor
          have HNX := hide2 enx
          clear elas ewo eor enx
          gi_wp2
          gi_quiet (fail)
          gi_wp2
          refine ⟨trivial, ?_⟩
          refine (all_in Fence.wide _ trivial rfl _ _).mono ?_
          rintro e w1 ⟨rfl, rfl⟩
          obtain ⟨Y, hY1⟩ : ∃ Y, (X.drewN nq).alloc (.cells #[.int .u16 (so : Int)] 46) = Y := ⟨_, rfl⟩
          have hYs : Y.heap.size = X.heap.size + 1 := by rw [← hY1]; simp [World.drewN]
          have hYk : ∀ k, k < X.heap.size → Y.heap[k]? = X.heap[k]? := fun k hk => by rw [← hY1]; exact Below.heap_alloc (X.drewN nq) _ k hk
          have bY : Boxed Y X.heap.size 46 (.int .u16 (so : Int)) := by rw [← hY1]; exact Boxed.new (X.drewN nq) _ _
          have hso : so < 65536 := by rw [← HWO.out]; exact wo_lt hnx
          have hioXY : Io X Y := by rw [← hY1]; exact ⟨rfl, rfl, rfl⟩
          rw [hY1]
          clear hY1
          have hkc : Kc W.heap.size X Y := ⟨by omega, fun k hk => hYk k (by omega), fun k cs ty f hk => hYk k (Array.getElem?_eq_some_iff.1 hk).1, hioXY⟩
          have YQ := hide2 (hkc.qu HXQ.out)
          have YH := hide2 (hkc.hr HXH.out)
          have YE : Hid (Ev Y d Wt t Bw Bg) := hide2 (HXE.out.keep (by omega) (fun k hk => hYk k (by rcases hk with rfl | rfl | rfl | rfl <;> omega)))
          have YM : Hid (Mk W.heap.size Y Ds) := hide2 (HXM.out.kc (base' := 0) (fun D hD hD2 _ => hYk D hD2))
          have YB := hide2 (hkc.boxed HBXQ.out)
          have YP := hide2 (hkc.boxed HBXP.out)
          have YJ : Hid (J Y) := hide2 (hJ _ _ HXJ.out (fun k hk => hYk k (by omega)) hioXY)
          have DLT : Hid (∀ D ∈ Ds, D < Y.heap.size) := hide2 (fun D hD => (Array.getElem?_eq_some_iff.1 (YM.out.at_ D hD).2).1)
          have hqbne : qb vt ≠ w.heap.size := by
            rw [hvt]; show g ≠ w.heap.size; have := HQ.out.lt; omega
          clear HXQ HXH HXE HXM HBXQ HBXP HXJ hkc q1 q2 q3 q4
          gi_wp2
          rw [HM.out] at YH YP
          have hkeepI : ∀ (pre : List Nat) (A B : World), ((∃ v, Boxed A (W.heap.size + 1 + 1) 64 v ∧ Qu A W.heap.size v (que ++ pre.map fun k => p ++ [k]) ∧ qb v ≠ w.heap.size) ∧ Boxed A w.heap.size 33 (.slice (some ⟨gp, 0, none⟩) (m + 1) cx) ∧ Hr A W.heap.size (.slice (some ⟨gp, 0, none⟩) (m + 1) cx) p ∧ J A ∧ Ev A d Wt t Bw Bg ∧ Mk W.heap.size A Ds ∧ Y.heap.size ≤ A.heap.size) → Kc W.heap.size A B → (∀ D ∈ Ds, B.heap[D]? = A.heap[D]?) → ((∃ v, Boxed B (W.heap.size + 1 + 1) 64 v ∧ Qu B W.heap.size v (que ++ pre.map fun k => p ++ [k]) ∧ qb v ≠ w.heap.size) ∧ Boxed B w.heap.size 33 (.slice (some ⟨gp, 0, none⟩) (m + 1) cx) ∧ Hr B W.heap.size (.slice (some ⟨gp, 0, none⟩) (m + 1) cx) p ∧ J B ∧ Ev B d Wt t Bw Bg ∧ Mk W.heap.size B Ds ∧ Y.heap.size ≤ B.heap.size) := by
            rintro pre A B ⟨⟨v, a1, a2, a3⟩, a4, a5, a6, a7, a8, a9⟩ k hD
            refine ⟨⟨v, k.boxed a1, k.qu a2, a3⟩, k.boxed a4, k.hr a5, hJ _ _ a6 (fun x hx => k.low x hx) k.io, a7.keep k.size (fun x hx => k.low x (by rcases hx with rfl | rfl | rfl | rfl <;> omega)), ⟨a8.nd, fun D hDm => ⟨(a8.at_ D hDm).1, (hD D hDm).trans (a8.at_ D hDm).2⟩⟩, Nat.le_trans a9 k.size⟩
          have HKI := hide2 hkeepI
          clear hkeepI
          refine wpIn_rangeFunc_ownG (n := 5) rfl (by decide) (gf := 27) (lb := #[.pointer (some ⟨X.heap.size, 0, none⟩)]) rfl trivial (enters_of Tryd.func27 (by kernel_rfl) rfl)
            (all_stops 4 X.heap.size so hso Y YE.out.tab (by omega) bY.cell) belowK_t (belowK_b (by omega)) (Below.refl _ _) (fun _ => rfl)
            (fun pre Wc => (∃ v, Boxed Wc (W.heap.size + 1 + 1) 64 v ∧ Qu Wc W.heap.size v (que ++ pre.map fun k => p ++ [k]) ∧ qb v ≠ w.heap.size) ∧ Boxed Wc w.heap.size 33 (.slice (some ⟨gp, 0, none⟩) (m + 1) cx) ∧ Hr Wc W.heap.size (.slice (some ⟨gp, 0, none⟩) (m + 1) cx) p ∧ J Wc ∧ Ev Wc d Wt t Bw Bg ∧ Mk W.heap.size Wc Ds ∧ Y.heap.size ≤ Wc.heap.size)
            (fun _ _ _ => False)
            (fun pre A B row hs hg hr => HKI.out pre A B hs (Kc.grown hg (by have := hs.2.2.2.2.2.2; omega) (fun r e => ⟨by have := (hr r e).1; omega, (hr r e).2⟩)) (fun D hD => hg.block D (by have := DLT.out D hD; have := hs.2.2.2.2.2.2; omega) (fun e => by have := (hr D e.symm).1; have := DLT.out D hD; omega)))
            (fun _ _ _ _ _ hs _ _ => hs)
            ⟨⟨vt, YB.out, by simpa using YQ.out, hqbne⟩, YP.out, YH.out, YJ.out, YE.out, YM.out, Nat.le_refl _⟩
            (fun x => { tmps := #[.func (.yield l) #[] #[], .pointer (some ⟨Bw, 0, none⟩), .pointer (some ⟨Bg, 0, none⟩), undef, .pointer (some ⟨W.heap.size + 1 + 1, 0, none⟩), .int .u16 (R : Int), .pointer (some ⟨w.heap.size, 0, none⟩), .int .u16 (nx : Int), nv x, u9, u10, u11, u12, u13, .slice (some ⟨g, off, none⟩) (que.length + 1) 1, .int .i64 ((que.length : Int) + 1), .bool true, .slice (some ⟨g, off, none⟩) (que.length + 1) 1, .pointer (some ⟨g, off, none⟩), .slice (some ⟨gp, 0, none⟩) (m + 1) cx, .slice (some ⟨g, off, none⟩) (que.length + 1) 1, .slice (some ⟨g, off, none⟩) 0 0, .func (.yield l) #[] #[], .slice (some ⟨gp, 0, none⟩) (m + 1) cx, .bool true, .bool false, .pointer (some ⟨d, 0, none⟩), .slice (some ⟨gp, 0, none⟩) (m + 1) cx, .slice (some ⟨gp, 0, none⟩) (m + 1) cx, .int .i64 ((m : Int) + 1), .int .i64 (m : Int), .pointer (some ⟨gp, m, none⟩), .int .i64 (lp : Int), .pointer (some ⟨d, 0, none⟩), .pointer (some ⟨d, 0, none⟩), .pointer (some ⟨d, lp, none⟩), .int .u16 (nx : Int), .int .u16 (nx : Int), .int .u16 (R : Int), .int .u16 (so : Int), .func (.func 27) #[] #[.pointer (some ⟨X.heap.size, 0, none⟩)], nv x, u42, u43, u44, u45, u46, u47, u48, u49, u50, u51, u52], defers := [] }) ?assign ?body ?done ?stop
          case assign =>
            intro ll x Wc K hK
            unfold nv at hK ⊢
            gi_wp2
            exact hK
          case body =>
            rintro ll pre k Wc ⟨⟨v, bq, qu, hne⟩, bp, hhr, hjj, hee, hmm, hss⟩ hltp
            unfold nv
            gi_wp2
            obtain ⟨g5, off5, cap5, cur5, Q5⟩ := qu
            have hlen5 : (que ++ pre.map fun k => p ++ [k]).length = que.length + pre.length := by simp
            obtain ⟨i3, hi3, y0, y1, y2⟩ := info_parts info3
            obtain ⟨iR, hiR, r0, r1, r2⟩ := info_parts infoR
            -- the worlds
            obtain ⟨u1, hu1⟩ : ∃ u, Wc.drew.alloc (.cells #[.int .i64 (k : Int)] 3) = u := ⟨_, rfl⟩
            have su1 : u1.heap.size = Wc.heap.size + 1 := by rw [← hu1, World.size_alloc]; rfl
            have k1 : ∀ x, x < Wc.heap.size → u1.heap[x]? = Wc.heap[x]? := fun x hx => by rw [← hu1]; exact Below.heap_alloc Wc.drew _ x hx
            have b1 : Boxed u1 Wc.heap.size 3 (.int .i64 (k : Int)) := by rw [← hu1]; exact Boxed.new Wc.drew _ _
            obtain ⟨u2, hu2⟩ : ∃ u, u1.alloc (.cells #[.slice (some ⟨gp, 0, none⟩) (m + 1) cx, .slice (some ⟨Wc.heap.size, 0, none⟩) 1 1] 33) = u := ⟨_, rfl⟩
            have su2 : u2.heap.size = Wc.heap.size + 2 := by rw [← hu2]; simp; omega
            have k2 : ∀ x, x < u1.heap.size → u2.heap[x]? = u1.heap[x]? := fun x hx => by rw [← hu2]; exact Below.heap_alloc u1 _ x hx
            have b2 : u2.heap[u1.heap.size]? = some (.cells #[.slice (some ⟨gp, 0, none⟩) (m + 1) cx, .slice (some ⟨Wc.heap.size, 0, none⟩) 1 1] 33 (0, 0)) := by rw [← hu2]; exact World.alloc_heap_new u1 _
            have k20 : ∀ x, x < Wc.heap.size → u2.heap[x]? = Wc.heap[x]? := fun x hx => (k2 x (by omega)).trans (k1 x hx)
            have hr2 : Hr u2 W.heap.size (.slice (some ⟨gp, 0, none⟩) (m + 1) cx) p := hhr.block (fun g' cu hg' => k20 g' (Array.getElem?_eq_some_iff.1 hg').1)
            have hcon := concat_any (w := u2) (b0 := W.heap.size) (q := u1.heap.size) (g2 := Wc.heap.size) (k := k) (p := p) (ao := some ⟨gp, 0, none⟩) (cp := cx) (by rw [HM.out]; exact hr2) (by rw [HM.out]; exact Go.Joins.cell_of_block b2 0) (Go.Joins.cell_of_block b2 1) (Boxed.cell ((k2 _ (by omega)).trans b1)) (by omega) (by omega)
            have HCON := hide2 hcon
            have hneq : W.heap.size + 1 + 1 ≠ w.heap.size := hneB
            have hbqlt := bq.lt
            have hbplt := bp.lt
            have S0 : Wc.drew.cell? ⟨W.heap.size + 1 + 1, 0, none⟩ = some v ∧ Wc.drew.frozen? ⟨W.heap.size + 1 + 1, 0, none⟩ = false ∧ Wc.drew.cell? ⟨w.heap.size, 0, none⟩ = some (.slice (some ⟨gp, 0, none⟩) (m + 1) cx) := ⟨bq.cell, bq.frozen, bp.cell⟩
            have S1 : u1.cell? ⟨W.heap.size + 1 + 1, 0, none⟩ = some v ∧ u1.frozen? ⟨W.heap.size + 1 + 1, 0, none⟩ = false ∧ u1.cell? ⟨w.heap.size, 0, none⟩ = some (.slice (some ⟨gp, 0, none⟩) (m + 1) cx) := by
              have x1 : Boxed u1 (W.heap.size + 1 + 1) 64 v := (k1 _ hbqlt).trans bq
              have x2 : Boxed u1 w.heap.size 33 (.slice (some ⟨gp, 0, none⟩) (m + 1) cx) := (k1 _ hbplt).trans bp
              exact ⟨x1.cell, x1.frozen, x2.cell⟩
            have S2 : u2.cell? ⟨W.heap.size + 1 + 1, 0, none⟩ = some v ∧ u2.frozen? ⟨W.heap.size + 1 + 1, 0, none⟩ = false ∧ u2.cell? ⟨w.heap.size, 0, none⟩ = some (.slice (some ⟨gp, 0, none⟩) (m + 1) cx) := by
              have x1 : Boxed u2 (W.heap.size + 1 + 1) 64 v := (k20 _ hbqlt).trans bq
              have x2 : Boxed u2 w.heap.size 33 (.slice (some ⟨gp, 0, none⟩) (m + 1) cx) := (k20 _ hbplt).trans bp
              exact ⟨x1.cell, x1.frozen, x2.cell⟩
            have hv5 := Q5.eq
            rw [hlen5] at hv5
            subst hv5
            have HU1 := hide2 hu1
            have HU2 := hide2 hu2
            have K20 := hide2 k20
            have SU2 := hide2 su2
            have SU1 := hide2 su1
            have HHS := hide2 hss
            have HLP := hide2 hltp
            have HL5 := hide2 hlen5
            have P5 := hide2 (And.intro bq (And.intro bp (And.intro hhr (And.intro hjj (And.intro hee (And.intro hmm (And.intro Q5 hne)))))))
            have HS1 := hide2 S1
            have HS2 := hide2 S2
            clear hu1 hu2 k1 k2 k20 b1 b2 hr2 hcon su1 su2 bq bp hhr hjj hee hmm Q5 hne hlen5 S1 S2 hss hltp
            refine round_last ll 8 (by kernel_rfl) (by kernel_rfl) (S := fun u => u.cell? ⟨W.heap.size + 1 + 1, 0, none⟩ = some (.slice (some ⟨g5, off5, none⟩) (que.length + pre.length) cap5) ∧ u.frozen? ⟨W.heap.size + 1 + 1, 0, none⟩ = false ∧ u.cell? ⟨w.heap.size, 0, none⟩ = some (.slice (some ⟨gp, 0, none⟩) (m + 1) cx)) S0 (fun hHeld => ?_)
            refine wpL_take (i := 0) (oi := { dst := some 42, op := _, type := _, pos := _, after := _, guard := _ }) (v := ?_) rfl rfl (by decide) (by kernel_rfl) (by kernel_rfl) (by kernel_rfl) (by kernel_rfl) (fun _ _ _ h => h) (Or.inl ⟨by rfl, ?_⟩) (by assumption) ?_
            rotate_left 1
            · intro u hSw; obtain ⟨s1, s2, s3⟩ := hSw; go_simp; try with_reducible rfl
            try simp only [Act.put, List.setIfInBounds_toArray, List.set_cons_zero, List.set_cons_succ]
            refine wpL_take (i := 1) (oi := { dst := some 43, op := _, type := _, pos := _, after := _, guard := _ }) (v := ?_) rfl rfl (by decide) (by kernel_rfl) (by kernel_rfl) (by kernel_rfl) (by kernel_rfl) (fun _ _ _ h => h) (Or.inl ⟨by rfl, ?_⟩) (by assumption) ?_
            rotate_left 1
            · intro u hSw; obtain ⟨s1, s2, s3⟩ := hSw; go_simp; try with_reducible rfl
            try simp only [Act.put, List.setIfInBounds_toArray, List.set_cons_zero, List.set_cons_succ]
            refine wpL_take (i := 2) (oi := { dst := some 44, op := _, type := _, pos := _, after := _, guard := _ }) (v := ?_) rfl rfl (by decide) (by kernel_rfl) (by kernel_rfl) (by kernel_rfl) (by kernel_rfl) (fun _ _ _ h => h) (Or.inl ⟨by rfl, ?_⟩) (by assumption) ?_
            rotate_left 1
            · intro u hSw; obtain ⟨s1, s2, s3⟩ := hSw; go_simp; try with_reducible rfl
            try simp only [Act.put, List.setIfInBounds_toArray, List.set_cons_zero, List.set_cons_succ]
            refine wpL_one (i := 3) (o := { dst := some 45, op := _, type := _, pos := _, after := _, guard := _ }) (by kernel_rfl) rfl (fun Kq hKq => ?_)
            refine step_buildSlice rfl 33 3 1 _ rfl #[.int .i64 (k : Int)] i3 (.int .i64 0) Tryd.underlying33 hi3 y0 1 y1 (by decide) (by decide) (by kernel_rfl) ?_
            rw [show (Wc.drew.heap.size) = Wc.heap.size from rfl, HU1.out]
            refine hKq.out _ _ (HS1.out) (fun hHeld => ?_)
            clear hKq Kq
            try simp only [Act.put, List.setIfInBounds_toArray, List.set_cons_zero, List.set_cons_succ]
            refine wpL_one (i := 4) (o := { dst := some 46, op := _, type := _, pos := _, after := _, guard := _ }) (by kernel_rfl) rfl (fun Kq hKq => ?_)
            refine step_buildSlice rfl 64 33 2 _ rfl #[.slice (some ⟨gp, 0, none⟩) (m + 1) cx, .slice (some ⟨Wc.heap.size, 0, none⟩) 1 1] iR (.slice none 0 0) Tryd.underlying64 hiR r0 1 r1 (by decide) (by decide) (by kernel_rfl) ?_
            rw [HU2.out]
            refine hKq.out _ _ (HS2.out) (fun hHeld => ?_)
            clear hKq Kq
            try simp only [Act.put, List.setIfInBounds_toArray, List.set_cons_zero, List.set_cons_succ]
            refine wpL_one (i := 5) (o := { dst := some 47, op := _, type := _, pos := _, after := _, guard := _ }) (by kernel_rfl) rfl (fun Kq hKq => ?_)
            obtain ⟨s1, s2, s3⟩ := hHeld
            go_simp
            refine HCON.out.mono ?_
            rintro e u3 ⟨y, rfl, hy3, hb3⟩
            obtain ⟨ay, cy, ey, _⟩ := hy3.form
            rw [List.length_append, HM.out, List.length_singleton] at ey
            have su3 : Wc.heap.size + 2 ≤ u3.heap.size := by have := hb3.size; have := SU2.out; omega
            have k3 : ∀ x, x < Wc.heap.size → u3.heap[x]? = Wc.heap[x]? := fun x hx => (hb3.block x (by have := SU2.out; omega)).trans (K20.out x hx)
            obtain ⟨u4, hu4⟩ : ∃ u, u3.alloc (.cells #[y] 33) = u := ⟨_, rfl⟩
            have su4 : u4.heap.size = u3.heap.size + 1 := by rw [← hu4, World.size_alloc]
            have k4 : ∀ x, x < Wc.heap.size → u4.heap[x]? = Wc.heap[x]? := fun x hx => by rw [← hu4]; exact (Below.heap_alloc u3 _ x (by omega)).trans (k3 x hx)
            have b4 : Boxed u4 u3.heap.size 33 y := by rw [← hu4]; exact Boxed.new u3 _ _
            obtain ⟨bq, bp, hhr, hjj, hee, hmm, Q5, hne⟩ := P5.out
            have hbqlt2 := bq.lt
            have hbplt2 := bp.lt
            have S3 : u3.cell? ⟨W.heap.size + 1 + 1, 0, none⟩ = some (.slice (some ⟨g5, off5, none⟩) (que.length + pre.length) cap5) ∧ u3.frozen? ⟨W.heap.size + 1 + 1, 0, none⟩ = false ∧ u3.cell? ⟨w.heap.size, 0, none⟩ = some (.slice (some ⟨gp, 0, none⟩) (m + 1) cx) := by
              have x1 : Boxed u3 (W.heap.size + 1 + 1) 64 (.slice (some ⟨g5, off5, none⟩) (que.length + pre.length) cap5) := (k3 _ hbqlt2).trans bq
              have x2 : Boxed u3 w.heap.size 33 (.slice (some ⟨gp, 0, none⟩) (m + 1) cx) := (k3 _ hbplt2).trans bp
              exact ⟨x1.cell, x1.frozen, x2.cell⟩
            have x4q : Boxed u4 (W.heap.size + 1 + 1) 64 (.slice (some ⟨g5, off5, none⟩) (que.length + pre.length) cap5) := (k4 _ hbqlt2).trans bq
            have x4p : Boxed u4 w.heap.size 33 (.slice (some ⟨gp, 0, none⟩) (m + 1) cx) := (k4 _ hbplt2).trans bp
            have S4 : u4.cell? ⟨W.heap.size + 1 + 1, 0, none⟩ = some (.slice (some ⟨g5, off5, none⟩) (que.length + pre.length) cap5) ∧ u4.frozen? ⟨W.heap.size + 1 + 1, 0, none⟩ = false ∧ u4.cell? ⟨w.heap.size, 0, none⟩ = some (.slice (some ⟨gp, 0, none⟩) (m + 1) cx) := ⟨x4q.cell, x4q.frozen, x4p.cell⟩
            have hr4 : Hr u4 W.heap.size y (p ++ [k]) := (hy3.block (fun g' cu hg' => by rw [← hu4]; exact Below.heap_alloc u3 _ g' (Array.getElem?_eq_some_iff.1 hg').1)).low (by have := SU2.out; have := HHS.out; omega)
            have Q4 : Qd u4 W.heap.size (.slice (some ⟨g5, off5, none⟩) (que.length + pre.length) cap5) (que ++ pre.map fun k => p ++ [k]) g5 off5 cap5 cur5 := Q5.keep (fun x _ hx => k4 x hx)
            have hone : y.oneCell' = true := by rw [ey]; rfl
            obtain ⟨v6, u5, hrun, hQ6, hg6, hqb6⟩ := Q4.push (s := u3.heap.size) hr4 hone b4.cell (by rw [HL5.out]; have := HLP.out; omega) (by have := HHS.out; omega) 64
            obtain ⟨g7, off7, cap7, cur7, Q7⟩ := hQ6
            have hg5q : g5 ≠ W.heap.size + 1 + 1 := fun e => by
              have := Q5.blk
              rw [e, show Wc.heap[W.heap.size + 1 + 1]? = _ from bq] at this
              injection this with e1; injection e1 with _ e2; exact absurd e2 (by decide)
            have hg5p : g5 ≠ w.heap.size := by rw [Q5.isq] at hne; exact hne
            have k5 : ∀ x, x < u4.heap.size → x ≠ g5 → u5.heap[x]? = u4.heap[x]? := fun x hx hx2 => hg6.block x hx (fun e => hx2 (by cases e; rfl))
            have x5q : Boxed u5 (W.heap.size + 1 + 1) 64 (.slice (some ⟨g5, off5, none⟩) (que.length + pre.length) cap5) := (k5 _ x4q.lt (fun e => hg5q e.symm)).trans x4q
            have x5p : Boxed u5 w.heap.size 33 (.slice (some ⟨gp, 0, none⟩) (m + 1) cx) := (k5 _ x4p.lt (fun e => hg5p e.symm)).trans x4p
            have S5 : u5.cell? ⟨W.heap.size + 1 + 1, 0, none⟩ = some (.slice (some ⟨g5, off5, none⟩) (que.length + pre.length) cap5) ∧ u5.frozen? ⟨W.heap.size + 1 + 1, 0, none⟩ = false ∧ u5.cell? ⟨w.heap.size, 0, none⟩ = some (.slice (some ⟨gp, 0, none⟩) (m + 1) cx) := ⟨x5q.cell, x5q.frozen, x5p.cell⟩
            obtain ⟨u6, hu6⟩ : ∃ u, u5.setCell ⟨W.heap.size + 1 + 1, 0, none⟩ v6 = u := ⟨_, rfl⟩
            have k6 : ∀ x, x ≠ W.heap.size + 1 + 1 → u6.heap[x]? = u5.heap[x]? := fun x hx => by rw [← hu6]; exact Below.heap_setCell _ _ _ x hx
            have su6 : u6.heap.size = u5.heap.size := by rw [← hu6]; simp [World.setCell]
            have su5 := hg6.size
            have b6 : Boxed u6 (W.heap.size + 1 + 1) 64 v6 := by rw [← hu6]; exact x5q.set v6
            have kk : ∀ x, x < Wc.heap.size → x ≠ g5 → x ≠ W.heap.size + 1 + 1 → u6.heap[x]? = Wc.heap[x]? := fun x hx a b => ((k6 x b).trans (k5 x (by omega) a)).trans (k4 x hx)
            have kint : ∀ (x : Nat) (cu : Array Value), Wc.heap[x]? = some (Obj.cells cu 3 (0, 0)) → u6.heap[x]? = Wc.heap[x]? := fun x cu hx => kk x (Array.getElem?_eq_some_iff.1 hx).1 (fun e => by
              rw [e, Q5.blk] at hx; injection hx with e1; injection e1 with _ e2; exact absurd e2 (by decide)) (fun e => by
              rw [e, show Wc.heap[W.heap.size + 1 + 1]? = _ from bq] at hx; injection hx with e1; injection e1 with _ e2; exact absurd e2 (by decide))
            have k6c : ∀ (x : Nat) (cu : Array Value) (ty : TypeId), ty ≠ 64 → u5.heap[x]? = some (Obj.cells cu ty (0, 0)) → u6.heap[x]? = u5.heap[x]? := fun x cu ty hty hx => k6 x (fun e => by
              rw [e, show u5.heap[W.heap.size + 1 + 1]? = _ from x5q] at hx; injection hx with e1; injection e1 with _ e2; exact hty e2.symm)
            have FIN : Hid (KeepsFrom Y.heap.size Wc u6 ∧ Below 1 Wc u6 ∧ ((∃ v, Boxed u6 (W.heap.size + 1 + 1) 64 v ∧ Qu u6 W.heap.size v (que ++ (pre ++ [k]).map fun k => p ++ [k]) ∧ qb v ≠ w.heap.size) ∧ Boxed u6 w.heap.size 33 (.slice (some ⟨gp, 0, none⟩) (m + 1) cx) ∧ Hr u6 W.heap.size (.slice (some ⟨gp, 0, none⟩) (m + 1) cx) p ∧ J u6 ∧ Ev u6 d Wt t Bw Bg ∧ Mk W.heap.size u6 Ds ∧ Y.heap.size ≤ u6.heap.size)) := hide2 (by
              have hg5lo := Q5.lo
              have hsizes : Wc.heap.size ≤ u6.heap.size := by omega
              have io1 : Io Wc u1 := by rw [← HU1.out]; exact ⟨rfl, rfl, rfl⟩
              have io2 : Io u1 u2 := by rw [← HU2.out]; exact ⟨rfl, rfl, rfl⟩
              have io4 : Io u3 u4 := by rw [← hu4]; exact ⟨rfl, rfl, rfl⟩
              have io6 : Io u5 u6 := by rw [← hu6]; exact ⟨rfl, rfl, rfl⟩
              have hio6 : Io Wc u6 := ((((io1.trans io2).trans (Io.below hb3)).trans io4).trans (Io.grown hg6)).trans io6
              refine ⟨⟨hsizes, fun x o _ hx ho => (kk x (Array.getElem?_eq_some_iff.1 hx).1 (fun e => by rw [e, Q5.blk] at hx; cases hx; cases ho) (fun e => by rw [e, show Wc.heap[W.heap.size + 1 + 1]? = _ from bq] at hx; cases hx; cases ho)).trans hx⟩, ?_, ⟨v6, b6, ?_, ?_⟩, (k6 _ (fun e => hneq e.symm)).trans x5p, hhr.block kint, hJ _ _ hjj (fun x hx => kk x (by omega) (by omega) (by omega)) hio6, hee.keep hsizes (fun x hx => kk x (by rcases hx with rfl | rfl | rfl | rfl <;> omega) (by rcases hx with rfl | rfl | rfl | rfl <;> omega) (by rcases hx with rfl | rfl | rfl | rfl <;> omega)), hmm.kc (base' := 0) (fun D hD hD2 hD3 => kk D hD2 (fun e => by rw [e, Q5.blk] at hD3; cases hD3) (fun e => by rw [e, show Wc.heap[W.heap.size + 1 + 1]? = _ from bq] at hD3; cases hD3)), by have := HHS.out; omega⟩
              · have hbs := HHS.out
                have bb1 : Below W.heap.size Wc u1 := by rw [← HU1.out]; exact (Below.refl _ Wc).drew.alloc (by show W.heap.size ≤ Wc.heap.size; omega) _
                have bb2 : Below W.heap.size Wc u2 := by rw [← HU2.out]; exact bb1.alloc (by have := SU1.out; omega) _
                have bb3 : Below W.heap.size Wc u3 := bb2.trans (hb3.mono (by have := SU2.out; omega))
                have bb4 : Below W.heap.size Wc u4 := by rw [← hu4]; exact bb3.alloc (by omega) _
                have bb5 : Below W.heap.size Wc u5 := bb4.grown hg6 (by omega) (fun x e => by cases e; exact hg5lo)
                have bb6 : Below W.heap.size Wc u6 := by rw [← hu6]; exact bb5.setCell (p := ⟨W.heap.size + 1 + 1, 0, none⟩) (by show W.heap.size ≤ W.heap.size + 1 + 1; omega) _
                exact bb6.mono (by omega)
              · rw [List.map_append, ← List.append_assoc]
                refine ⟨g7, off7, cap7, cur7, Q7.eq, Q7.lo, (k6c g7 cur7 _ (by decide) Q7.blk).trans Q7.blk, Q7.fit, Q7.le, Q7.mx, fun i p' hi => ?_⟩
                obtain ⟨z, z1, z2, z3⟩ := Q7.el i p' hi
                exact ⟨z, z1, z2, z3.block (fun g' cu hg' => k6c g' cu 3 (by decide) hg')⟩
              · rcases hqb6 with e | e
                · rw [e]; exact hg5p
                · rw [e]; omega)
            have hv7 := Q7.eq
            rw [show (que ++ (pre.map fun k => p ++ [k]) ++ [p ++ [k]]).length = que.length + (pre.length + 1) by simp] at hv7
            have HRUN := hide2 hrun
            have HU4 := hide2 hu4
            have HU6 := hide2 hu6
            have HS4 := hide2 S4
            have HS5 := hide2 S5
            clear hrun hu4 hu6 S4 S5 hb3 hy3 k3 k4 b4 x4q x4p x5q x5p hr4 Q4 hone hg6 hqb6 Q7 k5 k6 b6 kk kint k6c bq bp hhr hjj hee hmm Q5 hne
            subst ey
            subst hv7
            go_wp2_with fail
            refine hKq.out _ _ (S3) (fun hHeld => ?_)
            clear hKq Kq
            try simp only [Act.put, List.setIfInBounds_toArray, List.set_cons_zero, List.set_cons_succ]
            refine wpL_one (i := 6) (o := { dst := some 48, op := _, type := _, pos := _, after := _, guard := _ }) (by kernel_rfl) rfl (fun Kq hKq => ?_)
            refine step_buildSlice rfl 64 33 1 _ rfl #[.slice ay (m + 1 + 1) cy] iR (.slice none 0 0) Tryd.underlying64 hiR r0 1 r1 (by decide) (by decide) (by kernel_rfl) ?_
            rw [HU4.out]
            refine hKq.out _ _ (HS4.out) (fun hHeld => ?_)
            clear hKq Kq
            try simp only [Act.put, List.setIfInBounds_toArray, List.set_cons_zero, List.set_cons_succ]
            refine wpL_one (i := 7) (o := { dst := some 49, op := _, type := _, pos := _, after := _, guard := _ }) (by kernel_rfl) rfl (fun Kq hKq => ?_)
            refine step_append rfl _ _ 64 64 rfl (.slice (some ⟨g5, off5, none⟩) (que.length + pre.length) cap5) (.slice (some ⟨u3.heap.size, 0, none⟩) 1 1) _ rfl rfl HRUN.out ?_
            refine hKq.out _ _ (HS5.out) (fun hHeld => ?_)
            clear hKq Kq
            try simp only [Act.put, List.setIfInBounds_toArray, List.set_cons_zero, List.set_cons_succ]
            refine wpL_last (o := { dst := none, op := _, type := _, pos := _, after := _, guard := _ }) (by kernel_rfl) rfl (by kernel_rfl) (fun Kq hKq => ?_)
            obtain ⟨s1, s2, s3⟩ := hHeld
            go_simp
            refine hKq.out _ _ ?_
            rw [HU6.out]
            exact FIN.out
          case done =>
            rintro D ys Wd hD rfl ⟨⟨v, bq, qu, hne⟩, bp, hhr, hjj, hee, hmm, hss⟩ hK
            have hnew : Lk.rds so = Lk.new (gE Wt) (fun k => R.testBit k) lp := by
              unfold Lk.rds Lk.new
              refine List.filter_congr (fun k _ => ?_)
              rw [← HWO.out, wo_bit hnx hR]
              have : gE Wt lp k = nx.testBit k := by unfold gE; rw [HNX.out]
              rw [this]
            have hlp := HLAS.out
            have NEXT : Hid ((D :: Ds).length = (pop ++ [p]).length ∧ ro < 65536 ∧ Lk.Bf (gE Wt) t (pop ++ [p]) (que ++ (Lk.rds so).map fun k => p ++ [k]) ∧ (∀ k, k < 16 → (ro.testBit k = true ↔ k ∈ ((pop ++ [p]) ++ (que ++ (Lk.rds so).map fun k => p ++ [k])).map Lk.las)) ∧ (∀ y ∈ pop ++ [p], gE Wt (Lk.las y) t = false) ∧ Boxed Wd (W.heap.size + 1 + 1) 64 v ∧ Qu Wd W.heap.size v (que ++ (Lk.rds so).map fun k => p ++ [k]) ∧ J Wd ∧ Ev Wd d Wt t Bw Bg ∧ Mk W.heap.size Wd (D :: Ds) ∧ W.heap.size + 3 ≤ Wd.heap.size) := hide2 (by
              refine ⟨by simp [HDS.out], by rw [← HOR.out]; exact or_lt16 hR hnx, ?_, fun k hk => ?_, fun y hy => ?_, bq, qu, hjj, hee, ⟨List.nodup_cons.2 ⟨fun e => ?_, hmm.nd⟩, fun D' hD' => ?_⟩, by omega⟩
              · rw [hnew, ← hlp]; exact HBF.out.step (R := fun k => R.testBit k) HRE.out ht
              · have := HBF.out.reach (R := fun k => R.testBit k) HRE.out k hk
                rw [hlp] at this
                rw [hnew, ← this, ← HOR.out, Nat.testBit_or]
                have e2 : gE Wt lp k = nx.testBit k := by unfold gE; rw [HNX.out]
                rw [e2]
              · rcases List.mem_append.1 hy with q | q
                · exact HNO.out y q
                · rw [List.mem_singleton.1 q, hlp]; exact HBACK.out
              · have := DLT.out D e; omega
              · rcases List.mem_cons.1 hD' with q | q
                · rw [q]; exact ⟨by omega, hK⟩
                · exact hmm.at_ D' q)
            have hmeas : 17 - (Ds.length + 1) < 17 - Ds.length := by have := HDS.out; omega
            clear bq qu hne bp hhr hjj hee hmm hss hK hnew hlp
            gi_wp2
            refine ⟨⟨_, _, _, _, _, _, _, _, _, _, _, _, _, _, _, _, _, _, _, _, _, _, _, _, _, _, _, _, _, _, _, _, _, _, _, _, _, _, _, _, _, _, _, _, _, _, _, ro, pop ++ [p], que ++ (Lk.rds so).map fun k => p ++ [k], v, D :: Ds, rfl, NEXT⟩, ?_⟩
            simpa using hmeas
          case stop =>
            rintro D c pre Wd _ _ h _
            exact h.elim
        · have HXM : Mk W.heap.size X Ds := HAMK.out.kc (base' := 0) (fun D hD hD2 _ => hKX.2 D hD hD2)
          have hXs : W.heap.size ≤ X.heap.size := by have := hKX.1; omega
          have FND := HBF.out.found ht HNO.out hback
          gi_wp2
          exact leave_marks Ds X HXM hXs (fun w' k => ⟨results_none rfl _ _ _, ⟨_, rfl⟩, .inr ⟨p, _, FND, hJx _ _ _ _ hJX k⟩⟩)
      · rw [if_neg hcap] at hvt
        have hcap2 : ¬ (cap : Int) = 1 := by omega
        have hcap3 : (1 : Int) ≤ (cap : Int) := by omega
        have HQ := hide2 hQ
        clear hQ hwalk
        gi_wp2
        have hA := HA.out
        rw [hvt] at hA
        rw [hA, hy]
        clear hA
        refine ⟨fun q => (by cases q), ?_⟩
        refine HROUND.out.mono ?_
        rintro e X (⟨rfl, hback, hJX, hKX⟩ | ⟨rfl, hback, hJX, hKX⟩)
        · have HXQ := hide2 (HAQU.out.kl hKX hlow.1)
          have HXH := hide2 (HAHR.out.kl hKX hlow.1)
          have HXE := hide2 (HAEV.out.kl hKX h0 h1 h2 h3)
          have HXM : Hid (Mk W.heap.size X Ds) := hide2 (HAMK.out.kc (base' := 0) (fun D hD hD2 _ => hKX.same D (by omega) hD2))
          have bXQ : Boxed X (W.heap.size + 1 + 1) 64 vt := (hKX.same _ (by omega) HAQB.out.lt).trans HAQB.out
          have bXP : Boxed X w.heap.size 33 (.slice ax p.length cx) := (hKX.same _ (by omega) HAPB.out.lt).trans HAPB.out
          have HXJ := hide2 hJX
          have hXs : W.heap.size + 4 ≤ X.heap.size := by have := hKX.size; omega
          have hwlt : w.heap.size < X.heap.size := by have := hKX.size; omega
          have HBACK := hide2 hback
          have HBXQ := hide2 bXQ
          have HBXP := hide2 bXP
          have hplen := bf_len HBF.out ht (List.mem_append_right _ List.mem_cons_self)
          have hplen0 := List.length_pos_iff.2 hpne
          obtain ⟨gp, eax, hgp, hgpl, hpc⟩ := HXH.out.cell hplen0
          subst eax
          obtain ⟨m, hm⟩ : ∃ m, p.length = m + 1 := ⟨p.length - 1, by omega⟩
          have q1 := HXE.out.bg.cell
          have q2 := bXP.cell
          have q3 : X.cell? ⟨gp, m, none⟩ = some (.int .i64 (Lk.las p : Int)) := by have := hpc m (by omega); rw [las_get hm] at this; exact this
          have q4 := HXE.out.gm.cell hshort
          have hnx := HXE.out.gm.sm (Lk.las p)
          have hdl : (Lk.las p : Int) < 16 := by omega
          rw [hm] at q2
          have hsub : (m : Int) + 1 - 1 = (m : Int) := by omega
          have hnr := andNot16 hnx hR
          have hor := or16 hR hnx
          have HM := hide2 hm
          have HGE : Hid (∀ k, gE Wt (Lk.las p) k = (Wt.getD (Lk.las p) 0).testBit k) := hide2 (fun k => rfl)
          clear hpc bXQ bXP hJX hback hKX HAQU HAHR HAEV HAMK HAQB HAPB HAK HA HAJ HROUND hy
          rw [hm]
          generalize elas : Lk.las p = lp at *
          generalize enx : Wt.getD lp 0 = nx at *
          generalize ewo : wo nx R = so at *
          generalize eor : R ||| nx = ro at *
          have HLAS := hide2 elas
          have HWO := hide2 ewo
          have HOR := hide2 eor
          have HNX := hide2 enx
          clear elas ewo eor enx
          gi_wp2
          gi_quiet (fail)
          gi_wp2
          refine ⟨trivial, ?_⟩
          refine (all_in Fence.wide _ trivial rfl _ _).mono ?_
          rintro e w1 ⟨rfl, rfl⟩
          obtain ⟨Y, hY1⟩ : ∃ Y, (X.drewN nq).alloc (.cells #[.int .u16 (so : Int)] 46) = Y := ⟨_, rfl⟩
          have hYs : Y.heap.size = X.heap.size + 1 := by rw [← hY1]; simp [World.drewN]
          have hYk : ∀ k, k < X.heap.size → Y.heap[k]? = X.heap[k]? := fun k hk => by rw [← hY1]; exact Below.heap_alloc (X.drewN nq) _ k hk
          have bY : Boxed Y X.heap.size 46 (.int .u16 (so : Int)) := by rw [← hY1]; exact Boxed.new (X.drewN nq) _ _
          have hso : so < 65536 := by rw [← HWO.out]; exact wo_lt hnx
          have hioXY : Io X Y := by rw [← hY1]; exact ⟨rfl, rfl, rfl⟩
          rw [hY1]
          clear hY1
          have hkc : Kc W.heap.size X Y := ⟨by omega, fun k hk => hYk k (by omega), fun k cs ty f hk => hYk k (Array.getElem?_eq_some_iff.1 hk).1, hioXY⟩
          have YQ := hide2 (hkc.qu HXQ.out)
          have YH := hide2 (hkc.hr HXH.out)
          have YE : Hid (Ev Y d Wt t Bw Bg) := hide2 (HXE.out.keep (by omega) (fun k hk => hYk k (by rcases hk with rfl | rfl | rfl | rfl <;> omega)))
          have YM : Hid (Mk W.heap.size Y Ds) := hide2 (HXM.out.kc (base' := 0) (fun D hD hD2 _ => hYk D hD2))
          have YB := hide2 (hkc.boxed HBXQ.out)
          have YP := hide2 (hkc.boxed HBXP.out)
          have YJ : Hid (J Y) := hide2 (hJ _ _ HXJ.out (fun k hk => hYk k (by omega)) hioXY)
          have DLT : Hid (∀ D ∈ Ds, D < Y.heap.size) := hide2 (fun D hD => (Array.getElem?_eq_some_iff.1 (YM.out.at_ D hD).2).1)
          have hqbne : qb vt ≠ w.heap.size := by
            rw [hvt]; show g ≠ w.heap.size; have := HQ.out.lt; omega
          clear HXQ HXH HXE HXM HBXQ HBXP HXJ hkc q1 q2 q3 q4
          gi_wp2
          rw [HM.out] at YH YP
          have hkeepI : ∀ (pre : List Nat) (A B : World), ((∃ v, Boxed A (W.heap.size + 1 + 1) 64 v ∧ Qu A W.heap.size v (que ++ pre.map fun k => p ++ [k]) ∧ qb v ≠ w.heap.size) ∧ Boxed A w.heap.size 33 (.slice (some ⟨gp, 0, none⟩) (m + 1) cx) ∧ Hr A W.heap.size (.slice (some ⟨gp, 0, none⟩) (m + 1) cx) p ∧ J A ∧ Ev A d Wt t Bw Bg ∧ Mk W.heap.size A Ds ∧ Y.heap.size ≤ A.heap.size) → Kc W.heap.size A B → (∀ D ∈ Ds, B.heap[D]? = A.heap[D]?) → ((∃ v, Boxed B (W.heap.size + 1 + 1) 64 v ∧ Qu B W.heap.size v (que ++ pre.map fun k => p ++ [k]) ∧ qb v ≠ w.heap.size) ∧ Boxed B w.heap.size 33 (.slice (some ⟨gp, 0, none⟩) (m + 1) cx) ∧ Hr B W.heap.size (.slice (some ⟨gp, 0, none⟩) (m + 1) cx) p ∧ J B ∧ Ev B d Wt t Bw Bg ∧ Mk W.heap.size B Ds ∧ Y.heap.size ≤ B.heap.size) := by
            rintro pre A B ⟨⟨v, a1, a2, a3⟩, a4, a5, a6, a7, a8, a9⟩ k hD
            refine ⟨⟨v, k.boxed a1, k.qu a2, a3⟩, k.boxed a4, k.hr a5, hJ _ _ a6 (fun x hx => k.low x hx) k.io, a7.keep k.size (fun x hx => k.low x (by rcases hx with rfl | rfl | rfl | rfl <;> omega)), ⟨a8.nd, fun D hDm => ⟨(a8.at_ D hDm).1, (hD D hDm).trans (a8.at_ D hDm).2⟩⟩, Nat.le_trans a9 k.size⟩
          have HKI := hide2 hkeepI
          clear hkeepI
          refine wpIn_rangeFunc_ownG (n := 5) rfl (by decide) (gf := 27) (lb := #[.pointer (some ⟨X.heap.size, 0, none⟩)]) rfl trivial (enters_of Tryd.func27 (by kernel_rfl) rfl)
            (all_stops 4 X.heap.size so hso Y YE.out.tab (by omega) bY.cell) belowK_t (belowK_b (by omega)) (Below.refl _ _) (fun _ => rfl)
            (fun pre Wc => (∃ v, Boxed Wc (W.heap.size + 1 + 1) 64 v ∧ Qu Wc W.heap.size v (que ++ pre.map fun k => p ++ [k]) ∧ qb v ≠ w.heap.size) ∧ Boxed Wc w.heap.size 33 (.slice (some ⟨gp, 0, none⟩) (m + 1) cx) ∧ Hr Wc W.heap.size (.slice (some ⟨gp, 0, none⟩) (m + 1) cx) p ∧ J Wc ∧ Ev Wc d Wt t Bw Bg ∧ Mk W.heap.size Wc Ds ∧ Y.heap.size ≤ Wc.heap.size)
            (fun _ _ _ => False)
            (fun pre A B row hs hg hr => HKI.out pre A B hs (Kc.grown hg (by have := hs.2.2.2.2.2.2; omega) (fun r e => ⟨by have := (hr r e).1; omega, (hr r e).2⟩)) (fun D hD => hg.block D (by have := DLT.out D hD; have := hs.2.2.2.2.2.2; omega) (fun e => by have := (hr D e.symm).1; have := DLT.out D hD; omega)))
            (fun _ _ _ _ _ hs _ _ => hs)
            ⟨⟨vt, YB.out, by simpa using YQ.out, hqbne⟩, YP.out, YH.out, YJ.out, YE.out, YM.out, Nat.le_refl _⟩
            (fun x => { tmps := #[.func (.yield l) #[] #[], .pointer (some ⟨Bw, 0, none⟩), .pointer (some ⟨Bg, 0, none⟩), undef, .pointer (some ⟨W.heap.size + 1 + 1, 0, none⟩), .int .u16 (R : Int), .pointer (some ⟨w.heap.size, 0, none⟩), .int .u16 (nx : Int), nv x, u9, u10, u11, u12, u13, .slice (some ⟨g, off, none⟩) (que.length + 1) cap, .int .i64 ((que.length : Int) + 1), .bool true, .slice (some ⟨g, off, none⟩) (que.length + 1) cap, .pointer (some ⟨g, off, none⟩), .slice (some ⟨gp, 0, none⟩) (m + 1) cx, .slice (some ⟨g, off, none⟩) (que.length + 1) cap, .slice (some ⟨g, off + 1, none⟩) que.length (cap - 1), .func (.yield l) #[] #[], .slice (some ⟨gp, 0, none⟩) (m + 1) cx, .bool true, .bool false, .pointer (some ⟨d, 0, none⟩), .slice (some ⟨gp, 0, none⟩) (m + 1) cx, .slice (some ⟨gp, 0, none⟩) (m + 1) cx, .int .i64 ((m : Int) + 1), .int .i64 (m : Int), .pointer (some ⟨gp, m, none⟩), .int .i64 (lp : Int), .pointer (some ⟨d, 0, none⟩), .pointer (some ⟨d, 0, none⟩), .pointer (some ⟨d, lp, none⟩), .int .u16 (nx : Int), .int .u16 (nx : Int), .int .u16 (R : Int), .int .u16 (so : Int), .func (.func 27) #[] #[.pointer (some ⟨X.heap.size, 0, none⟩)], nv x, u42, u43, u44, u45, u46, u47, u48, u49, u50, u51, u52], defers := [] }) ?assign ?body ?done ?stop
          case assign =>
            intro ll x Wc K hK
            unfold nv at hK ⊢
            gi_wp2
            exact hK
          case body =>
            rintro ll pre k Wc ⟨⟨v, bq, qu, hne⟩, bp, hhr, hjj, hee, hmm, hss⟩ hltp
            unfold nv
            gi_wp2
            obtain ⟨g5, off5, cap5, cur5, Q5⟩ := qu
            have hlen5 : (que ++ pre.map fun k => p ++ [k]).length = que.length + pre.length := by simp
            obtain ⟨i3, hi3, y0, y1, y2⟩ := info_parts info3
            obtain ⟨iR, hiR, r0, r1, r2⟩ := info_parts infoR
            -- the worlds
            obtain ⟨u1, hu1⟩ : ∃ u, Wc.drew.alloc (.cells #[.int .i64 (k : Int)] 3) = u := ⟨_, rfl⟩
            have su1 : u1.heap.size = Wc.heap.size + 1 := by rw [← hu1, World.size_alloc]; rfl
            have k1 : ∀ x, x < Wc.heap.size → u1.heap[x]? = Wc.heap[x]? := fun x hx => by rw [← hu1]; exact Below.heap_alloc Wc.drew _ x hx
            have b1 : Boxed u1 Wc.heap.size 3 (.int .i64 (k : Int)) := by rw [← hu1]; exact Boxed.new Wc.drew _ _
            obtain ⟨u2, hu2⟩ : ∃ u, u1.alloc (.cells #[.slice (some ⟨gp, 0, none⟩) (m + 1) cx, .slice (some ⟨Wc.heap.size, 0, none⟩) 1 1] 33) = u := ⟨_, rfl⟩
            have su2 : u2.heap.size = Wc.heap.size + 2 := by rw [← hu2]; simp; omega
            have k2 : ∀ x, x < u1.heap.size → u2.heap[x]? = u1.heap[x]? := fun x hx => by rw [← hu2]; exact Below.heap_alloc u1 _ x hx
            have b2 : u2.heap[u1.heap.size]? = some (.cells #[.slice (some ⟨gp, 0, none⟩) (m + 1) cx, .slice (some ⟨Wc.heap.size, 0, none⟩) 1 1] 33 (0, 0)) := by rw [← hu2]; exact World.alloc_heap_new u1 _
            have k20 : ∀ x, x < Wc.heap.size → u2.heap[x]? = Wc.heap[x]? := fun x hx => (k2 x (by omega)).trans (k1 x hx)
            have hr2 : Hr u2 W.heap.size (.slice (some ⟨gp, 0, none⟩) (m + 1) cx) p := hhr.block (fun g' cu hg' => k20 g' (Array.getElem?_eq_some_iff.1 hg').1)
            have hcon := concat_any (w := u2) (b0 := W.heap.size) (q := u1.heap.size) (g2 := Wc.heap.size) (k := k) (p := p) (ao := some ⟨gp, 0, none⟩) (cp := cx) (by rw [HM.out]; exact hr2) (by rw [HM.out]; exact Go.Joins.cell_of_block b2 0) (Go.Joins.cell_of_block b2 1) (Boxed.cell ((k2 _ (by omega)).trans b1)) (by omega) (by omega)
            have HCON := hide2 hcon
            have hneq : W.heap.size + 1 + 1 ≠ w.heap.size := hneB
            have hbqlt := bq.lt
            have hbplt := bp.lt
            have S0 : Wc.drew.cell? ⟨W.heap.size + 1 + 1, 0, none⟩ = some v ∧ Wc.drew.frozen? ⟨W.heap.size + 1 + 1, 0, none⟩ = false ∧ Wc.drew.cell? ⟨w.heap.size, 0, none⟩ = some (.slice (some ⟨gp, 0, none⟩) (m + 1) cx) := ⟨bq.cell, bq.frozen, bp.cell⟩
            have S1 : u1.cell? ⟨W.heap.size + 1 + 1, 0, none⟩ = some v ∧ u1.frozen? ⟨W.heap.size + 1 + 1, 0, none⟩ = false ∧ u1.cell? ⟨w.heap.size, 0, none⟩ = some (.slice (some ⟨gp, 0, none⟩) (m + 1) cx) := by
              have x1 : Boxed u1 (W.heap.size + 1 + 1) 64 v := (k1 _ hbqlt).trans bq
              have x2 : Boxed u1 w.heap.size 33 (.slice (some ⟨gp, 0, none⟩) (m + 1) cx) := (k1 _ hbplt).trans bp
              exact ⟨x1.cell, x1.frozen, x2.cell⟩
            have S2 : u2.cell? ⟨W.heap.size + 1 + 1, 0, none⟩ = some v ∧ u2.frozen? ⟨W.heap.size + 1 + 1, 0, none⟩ = false ∧ u2.cell? ⟨w.heap.size, 0, none⟩ = some (.slice (some ⟨gp, 0, none⟩) (m + 1) cx) := by
              have x1 : Boxed u2 (W.heap.size + 1 + 1) 64 v := (k20 _ hbqlt).trans bq
              have x2 : Boxed u2 w.heap.size 33 (.slice (some ⟨gp, 0, none⟩) (m + 1) cx) := (k20 _ hbplt).trans bp
              exact ⟨x1.cell, x1.frozen, x2.cell⟩
            have hv5 := Q5.eq
            rw [hlen5] at hv5
            subst hv5
            have HU1 := hide2 hu1
            have HU2 := hide2 hu2
            have K20 := hide2 k20
            have SU2 := hide2 su2
            have SU1 := hide2 su1
            have HHS := hide2 hss
            have HLP := hide2 hltp
            have HL5 := hide2 hlen5
            have P5 := hide2 (And.intro bq (And.intro bp (And.intro hhr (And.intro hjj (And.intro hee (And.intro hmm (And.intro Q5 hne)))))))
            have HS1 := hide2 S1
            have HS2 := hide2 S2
            clear hu1 hu2 k1 k2 k20 b1 b2 hr2 hcon su1 su2 bq bp hhr hjj hee hmm Q5 hne hlen5 S1 S2 hss hltp
            refine round_last ll 8 (by kernel_rfl) (by kernel_rfl) (S := fun u => u.cell? ⟨W.heap.size + 1 + 1, 0, none⟩ = some (.slice (some ⟨g5, off5, none⟩) (que.length + pre.length) cap5) ∧ u.frozen? ⟨W.heap.size + 1 + 1, 0, none⟩ = false ∧ u.cell? ⟨w.heap.size, 0, none⟩ = some (.slice (some ⟨gp, 0, none⟩) (m + 1) cx)) S0 (fun hHeld => ?_)
            refine wpL_take (i := 0) (oi := { dst := some 42, op := _, type := _, pos := _, after := _, guard := _ }) (v := ?_) rfl rfl (by decide) (by kernel_rfl) (by kernel_rfl) (by kernel_rfl) (by kernel_rfl) (fun _ _ _ h => h) (Or.inl ⟨by rfl, ?_⟩) (by assumption) ?_
            rotate_left 1
            · intro u hSw; obtain ⟨s1, s2, s3⟩ := hSw; go_simp; try with_reducible rfl
            try simp only [Act.put, List.setIfInBounds_toArray, List.set_cons_zero, List.set_cons_succ]
            refine wpL_take (i := 1) (oi := { dst := some 43, op := _, type := _, pos := _, after := _, guard := _ }) (v := ?_) rfl rfl (by decide) (by kernel_rfl) (by kernel_rfl) (by kernel_rfl) (by kernel_rfl) (fun _ _ _ h => h) (Or.inl ⟨by rfl, ?_⟩) (by assumption) ?_
            rotate_left 1
            · intro u hSw; obtain ⟨s1, s2, s3⟩ := hSw; go_simp; try with_reducible rfl
            try simp only [Act.put, List.setIfInBounds_toArray, List.set_cons_zero, List.set_cons_succ]
            refine wpL_take (i := 2) (oi := { dst := some 44, op := _, type := _, pos := _, after := _, guard := _ }) (v := ?_) rfl rfl (by decide) (by kernel_rfl) (by kernel_rfl) (by kernel_rfl) (by kernel_rfl) (fun _ _ _ h => h) (Or.inl ⟨by rfl, ?_⟩) (by assumption) ?_
            rotate_left 1
            · intro u hSw; obtain ⟨s1, s2, s3⟩ := hSw; go_simp; try with_reducible rfl
            try simp only [Act.put, List.setIfInBounds_toArray, List.set_cons_zero, List.set_cons_succ]
            refine wpL_one (i := 3) (o := { dst := some 45, op := _, type := _, pos := _, after := _, guard := _ }) (by kernel_rfl) rfl (fun Kq hKq => ?_)
            refine step_buildSlice rfl 33 3 1 _ rfl #[.int .i64 (k : Int)] i3 (.int .i64 0) Tryd.underlying33 hi3 y0 1 y1 (by decide) (by decide) (by kernel_rfl) ?_
            rw [show (Wc.drew.heap.size) = Wc.heap.size from rfl, HU1.out]
            refine hKq.out _ _ (HS1.out) (fun hHeld => ?_)
            clear hKq Kq
            try simp only [Act.put, List.setIfInBounds_toArray, List.set_cons_zero, List.set_cons_succ]
            refine wpL_one (i := 4) (o := { dst := some 46, op := _, type := _, pos := _, after := _, guard := _ }) (by kernel_rfl) rfl (fun Kq hKq => ?_)
            refine step_buildSlice rfl 64 33 2 _ rfl #[.slice (some ⟨gp, 0, none⟩) (m + 1) cx, .slice (some ⟨Wc.heap.size, 0, none⟩) 1 1] iR (.slice none 0 0) Tryd.underlying64 hiR r0 1 r1 (by decide) (by decide) (by kernel_rfl) ?_
            rw [HU2.out]
            refine hKq.out _ _ (HS2.out) (fun hHeld => ?_)
            clear hKq Kq
            try simp only [Act.put, List.setIfInBounds_toArray, List.set_cons_zero, List.set_cons_succ]
            refine wpL_one (i := 5) (o := { dst := some 47, op := _, type := _, pos := _, after := _, guard := _ }) (by kernel_rfl) rfl (fun Kq hKq => ?_)
            obtain ⟨s1, s2, s3⟩ := hHeld
            go_simp
            refine HCON.out.mono ?_
            rintro e u3 ⟨y, rfl, hy3, hb3⟩
            obtain ⟨ay, cy, ey, _⟩ := hy3.form
            rw [List.length_append, HM.out, List.length_singleton] at ey
            have su3 : Wc.heap.size + 2 ≤ u3.heap.size := by have := hb3.size; have := SU2.out; omega
            have k3 : ∀ x, x < Wc.heap.size → u3.heap[x]? = Wc.heap[x]? := fun x hx => (hb3.block x (by have := SU2.out; omega)).trans (K20.out x hx)
            obtain ⟨u4, hu4⟩ : ∃ u, u3.alloc (.cells #[y] 33) = u := ⟨_, rfl⟩
            have su4 : u4.heap.size = u3.heap.size + 1 := by rw [← hu4, World.size_alloc]
            have k4 : ∀ x, x < Wc.heap.size → u4.heap[x]? = Wc.heap[x]? := fun x hx => by rw [← hu4]; exact (Below.heap_alloc u3 _ x (by omega)).trans (k3 x hx)
            have b4 : Boxed u4 u3.heap.size 33 y := by rw [← hu4]; exact Boxed.new u3 _ _
            obtain ⟨bq, bp, hhr, hjj, hee, hmm, Q5, hne⟩ := P5.out
            have hbqlt2 := bq.lt
            have hbplt2 := bp.lt
            have S3 : u3.cell? ⟨W.heap.size + 1 + 1, 0, none⟩ = some (.slice (some ⟨g5, off5, none⟩) (que.length + pre.length) cap5) ∧ u3.frozen? ⟨W.heap.size + 1 + 1, 0, none⟩ = false ∧ u3.cell? ⟨w.heap.size, 0, none⟩ = some (.slice (some ⟨gp, 0, none⟩) (m + 1) cx) := by
              have x1 : Boxed u3 (W.heap.size + 1 + 1) 64 (.slice (some ⟨g5, off5, none⟩) (que.length + pre.length) cap5) := (k3 _ hbqlt2).trans bq
              have x2 : Boxed u3 w.heap.size 33 (.slice (some ⟨gp, 0, none⟩) (m + 1) cx) := (k3 _ hbplt2).trans bp
              exact ⟨x1.cell, x1.frozen, x2.cell⟩
            have x4q : Boxed u4 (W.heap.size + 1 + 1) 64 (.slice (some ⟨g5, off5, none⟩) (que.length + pre.length) cap5) := (k4 _ hbqlt2).trans bq
            have x4p : Boxed u4 w.heap.size 33 (.slice (some ⟨gp, 0, none⟩) (m + 1) cx) := (k4 _ hbplt2).trans bp
            have S4 : u4.cell? ⟨W.heap.size + 1 + 1, 0, none⟩ = some (.slice (some ⟨g5, off5, none⟩) (que.length + pre.length) cap5) ∧ u4.frozen? ⟨W.heap.size + 1 + 1, 0, none⟩ = false ∧ u4.cell? ⟨w.heap.size, 0, none⟩ = some (.slice (some ⟨gp, 0, none⟩) (m + 1) cx) := ⟨x4q.cell, x4q.frozen, x4p.cell⟩
            have hr4 : Hr u4 W.heap.size y (p ++ [k]) := (hy3.block (fun g' cu hg' => by rw [← hu4]; exact Below.heap_alloc u3 _ g' (Array.getElem?_eq_some_iff.1 hg').1)).low (by have := SU2.out; have := HHS.out; omega)
            have Q4 : Qd u4 W.heap.size (.slice (some ⟨g5, off5, none⟩) (que.length + pre.length) cap5) (que ++ pre.map fun k => p ++ [k]) g5 off5 cap5 cur5 := Q5.keep (fun x _ hx => k4 x hx)
            have hone : y.oneCell' = true := by rw [ey]; rfl
            obtain ⟨v6, u5, hrun, hQ6, hg6, hqb6⟩ := Q4.push (s := u3.heap.size) hr4 hone b4.cell (by rw [HL5.out]; have := HLP.out; omega) (by have := HHS.out; omega) 64
            obtain ⟨g7, off7, cap7, cur7, Q7⟩ := hQ6
            have hg5q : g5 ≠ W.heap.size + 1 + 1 := fun e => by
              have := Q5.blk
              rw [e, show Wc.heap[W.heap.size + 1 + 1]? = _ from bq] at this
              injection this with e1; injection e1 with _ e2; exact absurd e2 (by decide)
            have hg5p : g5 ≠ w.heap.size := by rw [Q5.isq] at hne; exact hne
            have k5 : ∀ x, x < u4.heap.size → x ≠ g5 → u5.heap[x]? = u4.heap[x]? := fun x hx hx2 => hg6.block x hx (fun e => hx2 (by cases e; rfl))
            have x5q : Boxed u5 (W.heap.size + 1 + 1) 64 (.slice (some ⟨g5, off5, none⟩) (que.length + pre.length) cap5) := (k5 _ x4q.lt (fun e => hg5q e.symm)).trans x4q
            have x5p : Boxed u5 w.heap.size 33 (.slice (some ⟨gp, 0, none⟩) (m + 1) cx) := (k5 _ x4p.lt (fun e => hg5p e.symm)).trans x4p
            have S5 : u5.cell? ⟨W.heap.size + 1 + 1, 0, none⟩ = some (.slice (some ⟨g5, off5, none⟩) (que.length + pre.length) cap5) ∧ u5.frozen? ⟨W.heap.size + 1 + 1, 0, none⟩ = false ∧ u5.cell? ⟨w.heap.size, 0, none⟩ = some (.slice (some ⟨gp, 0, none⟩) (m + 1) cx) := ⟨x5q.cell, x5q.frozen, x5p.cell⟩
            obtain ⟨u6, hu6⟩ : ∃ u, u5.setCell ⟨W.heap.size + 1 + 1, 0, none⟩ v6 = u := ⟨_, rfl⟩
            have k6 : ∀ x, x ≠ W.heap.size + 1 + 1 → u6.heap[x]? = u5.heap[x]? := fun x hx => by rw [← hu6]; exact Below.heap_setCell _ _ _ x hx
            have su6 : u6.heap.size = u5.heap.size := by rw [← hu6]; simp [World.setCell]
            have su5 := hg6.size
            have b6 : Boxed u6 (W.heap.size + 1 + 1) 64 v6 := by rw [← hu6]; exact x5q.set v6
            have kk : ∀ x, x < Wc.heap.size → x ≠ g5 → x ≠ W.heap.size + 1 + 1 → u6.heap[x]? = Wc.heap[x]? := fun x hx a b => ((k6 x b).trans (k5 x (by omega) a)).trans (k4 x hx)
            have kint : ∀ (x : Nat) (cu : Array Value), Wc.heap[x]? = some (Obj.cells cu 3 (0, 0)) → u6.heap[x]? = Wc.heap[x]? := fun x cu hx => kk x (Array.getElem?_eq_some_iff.1 hx).1 (fun e => by
              rw [e, Q5.blk] at hx; injection hx with e1; injection e1 with _ e2; exact absurd e2 (by decide)) (fun e => by
              rw [e, show Wc.heap[W.heap.size + 1 + 1]? = _ from bq] at hx; injection hx with e1; injection e1 with _ e2; exact absurd e2 (by decide))
            have k6c : ∀ (x : Nat) (cu : Array Value) (ty : TypeId), ty ≠ 64 → u5.heap[x]? = some (Obj.cells cu ty (0, 0)) → u6.heap[x]? = u5.heap[x]? := fun x cu ty hty hx => k6 x (fun e => by
              rw [e, show u5.heap[W.heap.size + 1 + 1]? = _ from x5q] at hx; injection hx with e1; injection e1 with _ e2; exact hty e2.symm)
            have FIN : Hid (KeepsFrom Y.heap.size Wc u6 ∧ Below 1 Wc u6 ∧ ((∃ v, Boxed u6 (W.heap.size + 1 + 1) 64 v ∧ Qu u6 W.heap.size v (que ++ (pre ++ [k]).map fun k => p ++ [k]) ∧ qb v ≠ w.heap.size) ∧ Boxed u6 w.heap.size 33 (.slice (some ⟨gp, 0, none⟩) (m + 1) cx) ∧ Hr u6 W.heap.size (.slice (some ⟨gp, 0, none⟩) (m + 1) cx) p ∧ J u6 ∧ Ev u6 d Wt t Bw Bg ∧ Mk W.heap.size u6 Ds ∧ Y.heap.size ≤ u6.heap.size)) := hide2 (by
              have hg5lo := Q5.lo
              have hsizes : Wc.heap.size ≤ u6.heap.size := by omega
              have io1 : Io Wc u1 := by rw [← HU1.out]; exact ⟨rfl, rfl, rfl⟩
              have io2 : Io u1 u2 := by rw [← HU2.out]; exact ⟨rfl, rfl, rfl⟩
              have io4 : Io u3 u4 := by rw [← hu4]; exact ⟨rfl, rfl, rfl⟩
              have io6 : Io u5 u6 := by rw [← hu6]; exact ⟨rfl, rfl, rfl⟩
              have hio6 : Io Wc u6 := ((((io1.trans io2).trans (Io.below hb3)).trans io4).trans (Io.grown hg6)).trans io6
              refine ⟨⟨hsizes, fun x o _ hx ho => (kk x (Array.getElem?_eq_some_iff.1 hx).1 (fun e => by rw [e, Q5.blk] at hx; cases hx; cases ho) (fun e => by rw [e, show Wc.heap[W.heap.size + 1 + 1]? = _ from bq] at hx; cases hx; cases ho)).trans hx⟩, ?_, ⟨v6, b6, ?_, ?_⟩, (k6 _ (fun e => hneq e.symm)).trans x5p, hhr.block kint, hJ _ _ hjj (fun x hx => kk x (by omega) (by omega) (by omega)) hio6, hee.keep hsizes (fun x hx => kk x (by rcases hx with rfl | rfl | rfl | rfl <;> omega) (by rcases hx with rfl | rfl | rfl | rfl <;> omega) (by rcases hx with rfl | rfl | rfl | rfl <;> omega)), hmm.kc (base' := 0) (fun D hD hD2 hD3 => kk D hD2 (fun e => by rw [e, Q5.blk] at hD3; cases hD3) (fun e => by rw [e, show Wc.heap[W.heap.size + 1 + 1]? = _ from bq] at hD3; cases hD3)), by have := HHS.out; omega⟩
              · have hbs := HHS.out
                have bb1 : Below W.heap.size Wc u1 := by rw [← HU1.out]; exact (Below.refl _ Wc).drew.alloc (by show W.heap.size ≤ Wc.heap.size; omega) _
                have bb2 : Below W.heap.size Wc u2 := by rw [← HU2.out]; exact bb1.alloc (by have := SU1.out; omega) _
                have bb3 : Below W.heap.size Wc u3 := bb2.trans (hb3.mono (by have := SU2.out; omega))
                have bb4 : Below W.heap.size Wc u4 := by rw [← hu4]; exact bb3.alloc (by omega) _
                have bb5 : Below W.heap.size Wc u5 := bb4.grown hg6 (by omega) (fun x e => by cases e; exact hg5lo)
                have bb6 : Below W.heap.size Wc u6 := by rw [← hu6]; exact bb5.setCell (p := ⟨W.heap.size + 1 + 1, 0, none⟩) (by show W.heap.size ≤ W.heap.size + 1 + 1; omega) _
                exact bb6.mono (by omega)
              · rw [List.map_append, ← List.append_assoc]
                refine ⟨g7, off7, cap7, cur7, Q7.eq, Q7.lo, (k6c g7 cur7 _ (by decide) Q7.blk).trans Q7.blk, Q7.fit, Q7.le, Q7.mx, fun i p' hi => ?_⟩
                obtain ⟨z, z1, z2, z3⟩ := Q7.el i p' hi
                exact ⟨z, z1, z2, z3.block (fun g' cu hg' => k6c g' cu 3 (by decide) hg')⟩
              · rcases hqb6 with e | e
                · rw [e]; exact hg5p
                · rw [e]; omega)
            have hv7 := Q7.eq
            rw [show (que ++ (pre.map fun k => p ++ [k]) ++ [p ++ [k]]).length = que.length + (pre.length + 1) by simp] at hv7
            have HRUN := hide2 hrun
            have HU4 := hide2 hu4
            have HU6 := hide2 hu6
            have HS4 := hide2 S4
            have HS5 := hide2 S5
            clear hrun hu4 hu6 S4 S5 hb3 hy3 k3 k4 b4 x4q x4p x5q x5p hr4 Q4 hone hg6 hqb6 Q7 k5 k6 b6 kk kint k6c bq bp hhr hjj hee hmm Q5 hne
            subst ey
            subst hv7
            go_wp2_with fail
            refine hKq.out _ _ (S3) (fun hHeld => ?_)
            clear hKq Kq
            try simp only [Act.put, List.setIfInBounds_toArray, List.set_cons_zero, List.set_cons_succ]
            refine wpL_one (i := 6) (o := { dst := some 48, op := _, type := _, pos := _, after := _, guard := _ }) (by kernel_rfl) rfl (fun Kq hKq => ?_)
            refine step_buildSlice rfl 64 33 1 _ rfl #[.slice ay (m + 1 + 1) cy] iR (.slice none 0 0) Tryd.underlying64 hiR r0 1 r1 (by decide) (by decide) (by kernel_rfl) ?_
            rw [HU4.out]
            refine hKq.out _ _ (HS4.out) (fun hHeld => ?_)
            clear hKq Kq
            try simp only [Act.put, List.setIfInBounds_toArray, List.set_cons_zero, List.set_cons_succ]
            refine wpL_one (i := 7) (o := { dst := some 49, op := _, type := _, pos := _, after := _, guard := _ }) (by kernel_rfl) rfl (fun Kq hKq => ?_)
            refine step_append rfl _ _ 64 64 rfl (.slice (some ⟨g5, off5, none⟩) (que.length + pre.length) cap5) (.slice (some ⟨u3.heap.size, 0, none⟩) 1 1) _ rfl rfl HRUN.out ?_
            refine hKq.out _ _ (HS5.out) (fun hHeld => ?_)
            clear hKq Kq
            try simp only [Act.put, List.setIfInBounds_toArray, List.set_cons_zero, List.set_cons_succ]
            refine wpL_last (o := { dst := none, op := _, type := _, pos := _, after := _, guard := _ }) (by kernel_rfl) rfl (by kernel_rfl) (fun Kq hKq => ?_)
            obtain ⟨s1, s2, s3⟩ := hHeld
            go_simp
            refine hKq.out _ _ ?_
            rw [HU6.out]
            exact FIN.out
          case done =>
            rintro D ys Wd hD rfl ⟨⟨v, bq, qu, hne⟩, bp, hhr, hjj, hee, hmm, hss⟩ hK
            have hnew : Lk.rds so = Lk.new (gE Wt) (fun k => R.testBit k) lp := by
              unfold Lk.rds Lk.new
              refine List.filter_congr (fun k _ => ?_)
              rw [← HWO.out, wo_bit hnx hR]
              have : gE Wt lp k = nx.testBit k := by unfold gE; rw [HNX.out]
              rw [this]
            have hlp := HLAS.out
            have NEXT : Hid ((D :: Ds).length = (pop ++ [p]).length ∧ ro < 65536 ∧ Lk.Bf (gE Wt) t (pop ++ [p]) (que ++ (Lk.rds so).map fun k => p ++ [k]) ∧ (∀ k, k < 16 → (ro.testBit k = true ↔ k ∈ ((pop ++ [p]) ++ (que ++ (Lk.rds so).map fun k => p ++ [k])).map Lk.las)) ∧ (∀ y ∈ pop ++ [p], gE Wt (Lk.las y) t = false) ∧ Boxed Wd (W.heap.size + 1 + 1) 64 v ∧ Qu Wd W.heap.size v (que ++ (Lk.rds so).map fun k => p ++ [k]) ∧ J Wd ∧ Ev Wd d Wt t Bw Bg ∧ Mk W.heap.size Wd (D :: Ds) ∧ W.heap.size + 3 ≤ Wd.heap.size) := hide2 (by
              refine ⟨by simp [HDS.out], by rw [← HOR.out]; exact or_lt16 hR hnx, ?_, fun k hk => ?_, fun y hy => ?_, bq, qu, hjj, hee, ⟨List.nodup_cons.2 ⟨fun e => ?_, hmm.nd⟩, fun D' hD' => ?_⟩, by omega⟩
              · rw [hnew, ← hlp]; exact HBF.out.step (R := fun k => R.testBit k) HRE.out ht
              · have := HBF.out.reach (R := fun k => R.testBit k) HRE.out k hk
                rw [hlp] at this
                rw [hnew, ← this, ← HOR.out, Nat.testBit_or]
                have e2 : gE Wt lp k = nx.testBit k := by unfold gE; rw [HNX.out]
                rw [e2]
              · rcases List.mem_append.1 hy with q | q
                · exact HNO.out y q
                · rw [List.mem_singleton.1 q, hlp]; exact HBACK.out
              · have := DLT.out D e; omega
              · rcases List.mem_cons.1 hD' with q | q
                · rw [q]; exact ⟨by omega, hK⟩
                · exact hmm.at_ D' q)
            have hmeas : 17 - (Ds.length + 1) < 17 - Ds.length := by have := HDS.out; omega
            clear bq qu hne bp hhr hjj hee hmm hss hK hnew hlp
            gi_wp2
            refine ⟨⟨_, _, _, _, _, _, _, _, _, _, _, _, _, _, _, _, _, _, _, _, _, _, _, _, _, _, _, _, _, _, _, _, _, _, _, _, _, _, _, _, _, _, _, _, _, _, _, ro, pop ++ [p], que ++ (Lk.rds so).map fun k => p ++ [k], v, D :: Ds, rfl, NEXT⟩, ?_⟩
            simpa using hmeas
          case stop =>
            rintro D c pre Wd _ _ h _
            exact h.elim
        · have HXM : Mk W.heap.size X Ds := HAMK.out.kc (base' := 0) (fun D hD hD2 _ => hKX.2 D hD hD2)
          have hXs : W.heap.size ≤ X.heap.size := by have := hKX.1; omega
          have FND := HBF.out.found ht HNO.out hback
          gi_wp2
          exact leave_marks Ds X HXM hXs (fun w' k => ⟨results_none rfl _ _ _, ⟨_, rfl⟩, .inr ⟨p, _, FND, hJx _ _ _ _ hJX k⟩⟩)
end
end Go.Proofs.YtafbchjmjfpilaaDoor
