/-
  Layer 15: chains that come in, opened; rows that SweepTakes makes.
-/
import Derived.Test.YtfhcphgjaobnoaaDoorVsO
import Derived.Laws.AppendOwnNone
import Derived.Laws.MakeOwn
set_option linter.unusedVariables false
set_option linter.unusedSimpArgs false
namespace Go.Proofs.YtfhcphgjaobnoaaDoor
open Go.RowKit Go.ChangeShapes Go.WideShapes Go.ChangeAt

section
variable {H : Type} {enc : TypeId × Value → H} {W : World} {a : Option Addr} {len cap : Nat} {d : DataW H} {p : List MemPlace}
theorem cellsSlU : Tryd.prog.cellsOf 23 = 1 := by kernel_rfl
theorem cellsChn : Tryd.prog.cellsOf 48 = 2 := by kernel_rfl
theorem words_of {m : Nat} {c : Value} {y : DataW H × List MemPlace} (h : DataW.trod enc Tryd.prog W 0 (fun _ => true) true m 23 [c] = some y) : ∃ ao l k xs, c = .slice ao l k ∧ Seq 1 uh W ao l k xs ∧ ∀ x ∈ xs, U64 x := by
  rcases DataW.trod_slice Tryd.underlying23 h with ⟨hcs, hdn⟩ | ⟨x, l, k, elems, rest, n, _, hcs, _⟩
  · have e : c = .slice none 0 0 := by simpa using hcs
    subst e
    obtain ⟨xs, q1, q2, -⟩ := open_nums (a := none) (len := 0) (cap := 0) (d := y.1) (p := y.2) ⟨m, h⟩
    exact ⟨none, 0, 0, xs, rfl, q2, q1⟩
  · have e : c = .slice (some x) l k := by simpa using hcs
    subst e
    obtain ⟨xs, q1, q2, -⟩ := open_nums (a := some x) (len := l) (cap := k) (d := y.1) (p := y.2) ⟨m, h⟩
    exact ⟨some x, l, k, xs, rfl, q2, q1⟩
set_option maxRecDepth 100000 in
theorem chain_of {n : Nat} {cs : List Value} {y : DataW H × List MemPlace} (hl : cs.length = 2) (ht : DataW.trod enc Tryd.prog W 0 (fun _ => true) true n 48 cs = some y) : ∃ c : ChR, c.ok W ∧ cs = c.cells := by
  obtain ⟨xs, m, _, _, _, hxl, hfs⟩ := DataW.trod_struct Tryd.underlying48 ht
  have hx2 : xs.length = 2 := hxl
  match cs, hl with
  | [c0, c1], _ =>
    obtain ⟨y0, e0⟩ := some_at hx2 (i := 0) (by omega)
    obtain ⟨y1, e1⟩ := some_at hx2 (i := 1) (by omega)
    have h0 := (field_at hfs 0 23 0 _ cellsSlU rfl).trans e0
    have h1 := (field_at hfs 1 23 1 _ cellsSlU rfl).trans e1
    dsimp only [List.drop, List.take] at h0 h1
    obtain ⟨ao, l, k, bs, r1, r2, r3⟩ := words_of h0
    obtain ⟨bo, l2, k2, es, r4, r5, r6⟩ := words_of h1
    exact ⟨⟨ao, l, k, bo, l2, k2, bs, es⟩, ⟨r2, r5, r3, r6⟩, by rw [r1, r4]; rfl⟩
theorem open_chains (h : DataW.Trod enc Tryd.prog W 0 (fun _ => true) true 28 (.slice a len cap) d p) : ∃ cs : List ChR, (∀ c ∈ cs, c.ok W) ∧ Seq 2 ChR.cells W a len cap cs ∧ Long d len :=
  open_seq ChR.cells (fun c : ChR => c.ok W) Tryd.underlying28 cellsChn (by decide) (fun _ _ => rfl) (fun m cs y hl hy => chain_of hl hy) h
end
open Go.Maps
theorem wpList_append_eq {P : Program} {w : World} {ops : Array Oper} {rest : List Oper} {o : Oper} {a : Act} {Q : Exit → Act → World → Prop} (hgd : o.guard = none) (s x : Operand) (t : TypeId)
    (ho : o.op = .call { callee := .builtin .append, args := #[s, x], argTypes := #[t, t] }) (v u v' : Value) (w' : World) (hs : a.eval s = v) (hx : a.eval x = u) (hrun : ∀ ty, (Builtin.append_ #[t, t] ty #[v, u]).run P w = .ok v' w')
    (h : wpList P ops Q rest (a.put o.dst v') w') : wpList P ops Q (o :: rest) a w := by
  refine wpList_plain hgd fun K hK => ?_
  unfold Oper.wp
  simp [execOp, ho, resolve, invoke, builtin, hs, hx, hrun o.type, Result.andThen]
  exact hK _ _ h
section
variable {w w' wr w0 w2 : World} {K J : Nat → Prop} {sb d rb M u m B : Nat} {A : Stt} {st : Int} {nv' v : Value} {xs ys : List Int} {l : List Nat}
/-- A row of nodes is put into a row with room. -/
theorem nodes_append (hv : w.ownsRow B 3 1 v 0 []) (hn : Hr w B nv' l) (hl : l.length ≤ 1000) (hb : B ≤ w.heap.size) : ∃ v' w', (∀ ty, (Builtin.append_ #[29, 29] ty #[v, nv']).run Tryd.prog w = .ok v' w') ∧ Ir w' B v' (l.map fun c : Nat => (c : Int)) ∧ w.grownBy w' v.ownBlock ∧ (v'.ownBlock = v.ownBlock ∨ v'.ownBlock = some w.heap.size) := by
  obtain ⟨i0, hi0, z0, z1, z2⟩ := info_parts infoH
  have hmap : (l.map fun c : Nat => (c : Int)).map iv = l.map nv := by rw [List.map_map]; rfl
  rcases hn.2 with ⟨e, h0⟩ | ⟨g, cap, cur, e, hg, hh, hc, hm, hs, ht⟩
  · have hl0 : l = [] := List.length_eq_zero_iff.1 h0
    subst hl0
    rw [e]
    refine ⟨v, w, fun ty => run_append_owned_none (P := Tryd.prog) (w := w) B 29 ty 3 i0 1 Tryd.underlying29 hi0 v 0 [] hv, hv, ⟨rfl, rfl, rfl, Nat.le_refl _, fun _ _ _ => rfl⟩, .inl rfl⟩
  · rw [e]
    obtain ⟨v', w', a1, a2, a3, a4, a5⟩ := run_append_own_at (P := Tryd.prog) w B 29 29 3 i0 (.int .i64 0) 1 8 Tryd.underlying29 hi0 z0 z1 z2 rfl (by decide) v 0 [] hv ⟨g, 0, none⟩ l.length cap (l.map nv) (by simp) (fun j x hj => by
      rw [addr_plus, Nat.zero_add]
      have hjl : j < l.length := by have := (List.getElem?_eq_some_iff.1 hj).1; simpa using this
      rw [e] at hn
      rw [World.ownsRow.cellAt hn _ (by omega)]
      exact hj) (by intro x hx; obtain ⟨y, _, rfl⟩ := List.mem_map.1 hx; rfl) (by unfold maxLen; omega) (by omega) hb
    refine ⟨v', w', fun ty => a1, ?_, a3, a5⟩
    unfold Ir
    rw [hmap, List.length_map]
    simpa using a2
/-- What SweepTakes goes through. -/
structure Tst (w0 wr : World) (K J : Nat → Prop) (sb d rb M : Nat) (A : Stt) (u : Nat) (st : Int) (nv : Value) (m : Nat) (av : Value) (xs : List Int) : Prop where
  l : Ld w0 wr K J sb d rb M A u st
  n : Hr wr w0.heap.size nv (List.range' 1 m)
  na : ∀ j, nv.ownBlock = some j → ¬ (K j ∨ J j)
  a : Ir wr w0.heap.size av xs
  aa : ∀ j, av.ownBlock = some j → ¬ (K j ∨ J j)
  an : ∀ j, av.ownBlock = some j → nv.ownBlock ≠ some j
theorem Tst.below {av : Value} (h : Tst w0 wr K J sb d rb M A u st nv' m av xs) (hb : Below wr.heap.size wr w2) : Tst w0 w2 K J sb d rb M A u st nv' m av xs :=
  ⟨h.l.below hb, h.n.fr (Fr.below (F := fun _ => False) hb) (fun _ _ => id), h.na, hrow_fr h.a (Fr.below (F := fun _ => False) hb) (fun _ _ => id), h.aa, h.an⟩
/-- The row 'all' is another one. -/
theorem Tst.row {av av' : Value} (h : Tst w0 wr K J sb d rb M A u st nv' m av xs) (hw : 0 < w0.heap.size) (hF : Fr (fun j => av.ownBlock = some j) wr w2) (hr : Ir w2 w0.heap.size av' ys) (hb : ∀ j, av'.ownBlock = some j → av.ownBlock = some j ∨ wr.heap.size ≤ j) : Tst w0 w2 K J sb d rb M A u st nv' m av' ys := by
  refine ⟨h.l.keep hF (fun j hj e => h.aa j e hj) (fun j e => (World.ownsRow.lt h.a j e).1) hw, h.n.fr hF (fun j e q => h.an j q e), h.na, hr, fun j e q => ?_, fun j e q => ?_⟩
  · rcases hb j e with z | z
    · exact h.aa j z q
    · have := h.l.kl q; omega
  · rcases hb j e with z | z
    · exact h.an j z q
    · have := (World.ownsRow.lt h.n j q).2; omega
end
end Go.Proofs.YtfhcphgjaobnoaaDoor
