/-
  RecordCommits: which commits are written, and as which bytes.
-/
import Derived.Test.YteihabdldiopeaaE27
import Derived.Test.YteihabdldiopeaaE12
import Derived.Deep.DeepCutAuto
set_option linter.unusedVariables false
set_option linter.unusedSimpArgs false
namespace Go.Proofs.Yteihabdldiopeaa
open Go.RowKit Go.Maps

/-- An append of a slice of three cells each, in a region that draws. -/
theorem step_append_seq {α : Type} {f : α → List Value} {P : Program} {ops : Array Oper} {o : Oper} {a : Act} {w : World} {K : Act → World → Prop} {Q : Exit → Act → World → Prop} {E : Prop}
    (hg : o.guard = none) (s x : Operand) (t : TypeId) (hop : o.op = Op.call { callee := Callee.builtin Builtin.append, args := #[s, x], argTypes := #[t, t] })
    (base e : Nat) (i : TypeInfo) (z : Value) (bytes : Nat) (ht : P.underlying t = some (.slice e)) (hi : P.info? e = some i) (hz : i.zero = some z) (hsize : i.size = 3) (hby : i.bytes = bytes) (hzs : z.cells.size = 3)
    (v : Value) (n : Nat) (xs : List Value) (hs : a.eval s = v) (hown : w.ownsRow base e 3 v n xs) (ao : Option Addr) (len cap : Nat) (l : List α) (hx : a.eval x = .slice ao len cap) (hseq : Seq 3 f w ao len cap l) (hn : ao = none → len = 0 ∧ cap = 0)
    (hf : ∀ x, (f x).length = 3) (h1 : ∀ x, ∀ u ∈ f x, u.oneCell' = true) (h63 : n + len ≤ maxLen) (hbytes : (n + len) * bytes ≤ 140737488355328) (hbase : base ≤ w.heap.size)
    (h : ∀ v' w', w'.ownsRow base e 3 v' (n + len) (xs ++ l.flatMap f) → w.grownBy w' v.ownBlock → (v'.ownBlock = v.ownBlock ∨ v'.ownBlock = some w.heap.size) → K (a.put o.dst v') w') :
    if Region.wanted o (yielded ops a.tmps) = true then Oper.wp P o a w K Q else E := by
  have hw : Region.wanted o (yielded ops a.tmps) = true := by simp [Region.wanted, hg]
  rw [if_pos hw]
  cases ao with
  | none =>
    obtain ⟨rfl, rfl⟩ := hn rfl
    obtain rfl : l = [] := List.eq_nil_of_length_eq_zero hseq.1
    have hr := run_append_owned_none (P := P) (w := w) base t o.type e i 3 ht hi v n xs hown
    unfold Oper.wp
    simp [execOp, hop, resolve, invoke, builtin, hs, hx, hr, Result.andThen]
    exact h v w (by simpa using hown) (World.grownBy.refl _ _) (.inl rfl)
  | some ad =>
    obtain ⟨v', w', hr, h2, h3, h4, h5⟩ := run_append_own_at (P := P) w base t o.type e i z 3 bytes ht hi hz hsize hby hzs (by decide) v n xs hown ad len cap (l.flatMap f) (by rw [flat3_len hf, hseq.1]) (hseq.flat hf) (one_cells h1) h63 hbytes hbase
    unfold Oper.wp
    simp [execOp, hop, resolve, invoke, builtin, hs, hx, hr, Result.andThen]
    exact h v' w' h2 h3 h5
theorem Seq.upto3 {α : Type} {f : α → List Value} {w : World} {ao : Option Addr} {len cap : Nat} {l : List α} {x : α} (h : Seq 3 f w ao (len + 1) cap (l ++ [x])) (hl : l.length = len) : Seq 3 f w ao len cap l :=
  ⟨hl, by have := h.2.1; omega, h.2.2.1, fun h0 => by
    obtain ⟨b, off, e, hb, hc⟩ := h.2.2.2 (by omega)
    exact ⟨b, off, e, hb, fun i y hi => hc i y (by rw [List.getElem?_append_left (List.getElem?_eq_some_iff.1 hi).1]; exact hi)⟩⟩
def mark : Wr := ⟨⟨#[109, 97, 114, 107]⟩, ⟨#[]⟩, false⟩
theorem wr_one (x : Wr) : ∀ u ∈ x.cells, u.oneCell' = true := by
  intro u hu
  simp [Wr.cells] at hu
  rcases hu with rfl | rfl | rfl <;> rfl
theorem seq_one {w : World} {g : Nat} (h : w.heap[g]? = some (.cells #[.string ⟨#[109, 97, 114, 107]⟩, .string ⟨#[]⟩, .bool false] 28 (0, 0))) : Seq 3 Wr.cells w (some ⟨g, 0, none⟩) 1 1 [mark] := by
  refine ⟨rfl, Nat.le_refl _, by unfold maxLen; omega, fun _ => ⟨g, 0, rfl, (Array.getElem?_eq_some_iff.1 h).1, fun i x hi j u hu => ?_⟩⟩
  rw [Go.Joins.cell_of_block h]
  rcases i with _ | i
  · cases hi
    rcases j with _ | _ | _ | j
    · cases hu; rfl
    · cases hu; rfl
    · cases hu; rfl
    · cases hu
  · cases hi
theorem empty_row (W : World) (base : Nat) (hb : base ≤ W.heap.size) : (W.alloc (.cells #[] 28)).ownsRow base 28 3 (.slice (some ⟨W.heap.size, 0, none⟩) 0 0) 0 [] :=
  ⟨rfl, .inr ⟨W.heap.size, 0, #[], rfl, hb, heap_alloc_new W _, Nat.le_refl _, Nat.zero_le _, rfl, rfl⟩⟩

section
variable (w : World)
set_option maxRecDepth 100000
set_option maxHeartbeats 2000000

theorem commits_walk (t : Int) (ao : Option Addr) (len cap : Nat) (ws : List Wr) (h : Seq 3 Wr.cells w ao len cap ws) (hsz : len * 40 ≤ 140737488351232) (hcap0 : ao = none → cap = 0) :
    Calls Try.prog 4 #[.agg #[.int .i64 t, .slice ao len cap]] w fun e w' => e = .returned (.bool true) ∧ Below w.heap.size w w' := by
  obtain ⟨i0, hi, hz0, hz1, hz2⟩ := info_parts infoW
  have hx := h.1
  have hA : Below w.heap.size w (w.alloc (.cells #[.int .i64 t, .slice ao len cap] 26)) := (Below.refl _ _).alloc (Nat.le_refl _) _
  have k0 := heap_alloc_new w (.cells #[.int .i64 t, .slice ao len cap] 26)
  have hbr := bt_byt' (rightC ⟨t, ws⟩) (cb ⟨t, ws⟩) cb_byt
  have HS := hide3 h
  clear h
  go_enter Try.func4, Try.ntmps4
  go_wp2_with fail
  refine (shown_any).mono ?_
  rintro e w1 ⟨rfl, hb1⟩
  have B1 := below_on hA hb1
  have k1 := (hb1.block w.heap.size (by simp)).trans k0
  have l1 : w.heap.size < w1.heap.size := (Array.getElem?_eq_some_iff.1 k1).1
  clear hA k0 hb1
  go_upto_region 2 with fail
  go_cut [4] (fun pp wc => ∃ (pF : Nat) (a l c : _), pp = .pointer (some ⟨pF, 0, none⟩) ∧ wc.heap[pF]? = some (.cells #[.int .i64 t, .slice a l c] 26 (0, 0)) ∧ wc.ownsRow w1.heap.size 28 3 (.slice a l c) (len + 1) (ws.flatMap Wr.cells ++ mark.cells) ∧ Below w1.heap.size w1 wc ∧ w1.heap.size ≤ pF ∧ (Value.slice a l c).ownBlock ≠ some pF)
  case first =>
    rename_i J1 K1 hJ1 hK1
    go_wp2_with fail
    refine wp_region_noPanic ?_
    refine wp_region_held_drew (S := fun u => u.heap[w.heap.size]? = some (.cells #[.int .i64 t, .slice ao len cap] 26 (0, 0))) (by kernel_rfl) (k1) (fun hHeld => ?_)
    have hB : Below w1.heap.size w1 w1.drew := below_drewN (Below.refl _ _) 1
    obtain ⟨W0, eW0⟩ : ∃ x, x = w1.drew := ⟨_, rfl⟩
    rw [← eW0] at hB hHeld ⊢
    clear eW0
    refine wpAnyH_take (i := 0) (oi := { dst := some 13, op := _, type := _, pos := _, after := _, guard := _ }) (v := ?_) rfl (by kernel_rfl) (by kernel_rfl) (by kernel_rfl) (fun _ _ _ h => h) (Or.inl ⟨by rfl, ?_⟩) (by assumption) ?_
    rotate_left 1
    · intro u s1; have k0 : u.cell? ⟨w.heap.size, 0, none⟩ = some (.int .i64 t) := (by rw [Go.Joins.cell_of_block s1]; rfl); have k1 : u.cell? ⟨w.heap.size, 1, none⟩ = some (.slice ao len cap) := (by rw [Go.Joins.cell_of_block s1]; rfl); go_simp; try with_reducible rfl
    try simp only [Act.put, List.setIfInBounds_toArray, List.set_cons_zero, List.set_cons_succ]
    refine wpAnyH_take (i := 1) (oi := { dst := some 14, op := _, type := _, pos := _, after := _, guard := _ }) (v := ?_) rfl (by kernel_rfl) (by kernel_rfl) (by kernel_rfl) (fun _ _ _ h => h) (Or.inl ⟨by rfl, ?_⟩) (by assumption) ?_
    rotate_left 1
    · intro u s1; have k0 : u.cell? ⟨w.heap.size, 0, none⟩ = some (.int .i64 t) := (by rw [Go.Joins.cell_of_block s1]; rfl); have k1 : u.cell? ⟨w.heap.size, 1, none⟩ = some (.slice ao len cap) := (by rw [Go.Joins.cell_of_block s1]; rfl); go_simp; try with_reducible rfl
    try simp only [Act.put, List.setIfInBounds_toArray, List.set_cons_zero, List.set_cons_succ]
    refine wpAnyH_take (i := 3) (oi := { dst := some 16, op := _, type := _, pos := _, after := _, guard := _ }) (v := ?_) rfl (by kernel_rfl) (by kernel_rfl) (by kernel_rfl) (fun _ _ _ h => h) (Or.inl ⟨by rfl, ?_⟩) (by assumption) ?_
    rotate_left 1
    · intro u s1; have k0 : u.cell? ⟨w.heap.size, 0, none⟩ = some (.int .i64 t) := (by rw [Go.Joins.cell_of_block s1]; rfl); have k1 : u.cell? ⟨w.heap.size, 1, none⟩ = some (.slice ao len cap) := (by rw [Go.Joins.cell_of_block s1]; rfl); go_simp; try with_reducible rfl
    try simp only [Act.put, List.setIfInBounds_toArray, List.set_cons_zero, List.set_cons_succ]
    refine wpAnyH_take (i := 4) (oi := { dst := some 17, op := _, type := _, pos := _, after := _, guard := _ }) (v := ?_) rfl (by kernel_rfl) (by kernel_rfl) (by kernel_rfl) (fun _ _ _ h => h) (Or.inl ⟨by rfl, ?_⟩) (by assumption) ?_
    rotate_left 1
    · intro u s1; have k0 : u.cell? ⟨w.heap.size, 0, none⟩ = some (.int .i64 t) := (by rw [Go.Joins.cell_of_block s1]; rfl); have k1 : u.cell? ⟨w.heap.size, 1, none⟩ = some (.slice ao len cap) := (by rw [Go.Joins.cell_of_block s1]; rfl); go_simp; try with_reducible rfl
    try simp only [Act.put, List.setIfInBounds_toArray, List.set_cons_zero, List.set_cons_succ]
    refine wpAnyH_take (i := 6) (oi := { dst := some 19, op := _, type := _, pos := _, after := _, guard := _ }) (v := ?_) rfl (by kernel_rfl) (by kernel_rfl) (by kernel_rfl) (fun _ _ _ h => h) (Or.inl ⟨by rfl, ?_⟩) (by assumption) ?_
    rotate_left 1
    · intro u s1; have k0 : u.cell? ⟨w.heap.size, 0, none⟩ = some (.int .i64 t) := (by rw [Go.Joins.cell_of_block s1]; rfl); have k1 : u.cell? ⟨w.heap.size, 1, none⟩ = some (.slice ao len cap) := (by rw [Go.Joins.cell_of_block s1]; rfl); go_simp; try with_reducible rfl
    try simp only [Act.put, List.setIfInBounds_toArray, List.set_cons_zero, List.set_cons_succ]
    refine wpAnyH_ready (rs := [2, 7, 10]) (by kernel_rfl) (by simp) ?_
    refine AllReadyH.cons (o := { dst := some 15, op := _, type := _, pos := _, after := _, guard := _ }) rfl (fun K hK => ?_) ?_
    · skip
      go_simp
      have hS' := (blk_alloc' W0 (.cells #[] 28) w.heap.size (by have := hB.size; omega)).trans hHeld
      have hB' := below_more hB (.cells #[] 28)
      have hA' := empty_row W0 w1.heap.size hB.size
      refine hK.out _ _ hS' (fun hHeld => ?_)
      clear hK K
      try simp only [Act.put, List.setIfInBounds_toArray, List.set_cons_zero, List.set_cons_succ]
      have vA_ex : ∃ x, x = Value.slice (some ⟨W0.heap.size, 0, none⟩) 0 0 := ⟨_, rfl⟩
      obtain ⟨vA, evA⟩ := vA_ex
      rw [← evA] at hA' ⊢
      clear evA
      clear hB hS'
      generalize W0.alloc (.cells #[] 28) = W1 at hB' hA' hHeld ⊢
      have hB := hB'
      have hA := hA'
      clear hB' hA'
      refine wpAnyH_ready (rs := [5, 7, 10]) (by kernel_rfl) (by simp) ?_
      refine AllReadyH.cons (o := { dst := some 18, op := _, type := _, pos := _, after := _, guard := _ }) rfl (fun K hK => ?_) ?_
      · skip
        refine step_append_seq (by rfl) _ _ _ (by rfl) w1.heap.size 28 i0 (.agg #[.string .empty, .string .empty, .bool false]) 40 Try.underlying24 hi hz0 hz1 hz2 rfl vA 0 [] (by rfl) hA ao len cap ws (by rfl) ((HS.out.keep B1).keep hB) (fun e => by rcases Nat.eq_zero_or_pos len with h0 | h0; exact ⟨h0, hcap0 e⟩; obtain ⟨b, off, e2, _⟩ := HS.out.2.2.2 h0; rw [e] at e2; cases e2) (fun _ => rfl) wr_one (by unfold maxLen; omega) (by omega) hB.size ?_
        intro vB W2 hA' hgr hat
        rw [Nat.zero_add, List.nil_append] at hA'
        have hB' : Below w1.heap.size w1 W2 := hB.trans ⟨hgr.os, hgr.tape, hgr.output, hgr.size, fun k hk => hgr.block k (Nat.lt_of_lt_of_le hk hB.size) (fun e => by have := (World.ownsRow.lt hA k e.symm).1; omega)⟩
        have hS' := (hgr.block w.heap.size (by have := hB.size; omega) (fun e => by have := (World.ownsRow.lt hA _ e.symm).1; omega)).trans hHeld
        refine hK.out _ _ hS' (fun hHeld => ?_)
        clear hK K
        try simp only [Act.put, List.setIfInBounds_toArray, List.set_cons_zero, List.set_cons_succ]
        clear hB hA hS' hgr hat
        have hB := hB'
        have hA := hA'
        clear hB' hA'
        obtain ⟨vA, evA⟩ : ∃ x, x = vB := ⟨_, rfl⟩
        subst evA
        refine wpAnyH_ready (rs := [7, 10]) (by kernel_rfl) (by simp) ?_
        refine AllReadyH.cons (o := { dst := some 20, op := _, type := _, pos := _, after := _, guard := _ }) rfl (fun K hK => ?_) ?_
        · skip
          go_simp
          have hS' := (blk_alloc' W2 (.cells #[.string ⟨#[109, 97, 114, 107]⟩, .string ⟨#[]⟩, .bool false] 28) w.heap.size (by have := hB.size; omega)).trans hHeld
          have hB' := below_more hB (.cells #[.string ⟨#[109, 97, 114, 107]⟩, .string ⟨#[]⟩, .bool false] 28)
          have hA' := World.ownsRow.alloc hA (.cells #[.string ⟨#[109, 97, 114, 107]⟩, .string ⟨#[]⟩, .bool false] 28)
          have hAl : ∀ j, vA.ownBlock = some j → j ≠ W2.heap.size := fun j hj e => by have := (World.ownsRow.lt hA j hj).2; omega
          have hC' := heap_alloc_new W2 (.cells #[.string ⟨#[109, 97, 114, 107]⟩, .string ⟨#[]⟩, .bool false] 28)
          refine hK.out _ _ hS' (fun hHeld => ?_)
          clear hK K
          try simp only [Act.put, List.setIfInBounds_toArray, List.set_cons_zero, List.set_cons_succ]
          have hCA : vA.ownBlock ≠ some W2.heap.size := fun e => hAl _ e rfl
          have hgC : w1.heap.size ≤ W2.heap.size := hB.size
          obtain ⟨gC, egC⟩ : ∃ x, x = W2.heap.size := ⟨_, rfl⟩
          rw [← egC] at hC' hgC ⊢ hCA
          clear egC
          clear hB hA hS'
          generalize W2.alloc (.cells #[.string ⟨#[109, 97, 114, 107]⟩, .string ⟨#[]⟩, .bool false] 28) = W3 at hB' hA' hC' hHeld ⊢
          have hB := hB'
          have hA := hA'
          have hC := hC'
          clear hB' hA' hC'
          refine wpAnyH_ready (rs := [8, 10]) (by kernel_rfl) (by simp) ?_
          refine AllReadyH.cons (o := { dst := some 21, op := _, type := _, pos := _, after := _, guard := _ }) rfl (fun K hK => ?_) ?_
          · skip
            refine step_append_seq (by rfl) _ _ _ (by rfl) w1.heap.size 28 i0 (.agg #[.string .empty, .string .empty, .bool false]) 40 Try.underlying24 hi hz0 hz1 hz2 rfl vA len (ws.flatMap Wr.cells) (by rfl) hA (some ⟨gC, 0, none⟩) 1 1 [mark] (by rfl) (seq_one hC) (fun e => by cases e) (fun _ => rfl) wr_one (by unfold maxLen; omega) (by omega) hB.size ?_
            intro vB W4 hA' hgr hat
            rw [List.flatMap_singleton] at hA'
            have hB' : Below w1.heap.size w1 W4 := hB.trans ⟨hgr.os, hgr.tape, hgr.output, hgr.size, fun k hk => hgr.block k (Nat.lt_of_lt_of_le hk hB.size) (fun e => by have := (World.ownsRow.lt hA k e.symm).1; omega)⟩
            have hS' := (hgr.block w.heap.size (by have := hB.size; omega) (fun e => by have := (World.ownsRow.lt hA _ e.symm).1; omega)).trans hHeld
            have hC' := (hgr.block gC (Array.getElem?_eq_some_iff.1 hC).1 (fun e => hCA e.symm)).trans hC
            have hCA' : vB.ownBlock ≠ some gC := by rcases hat with e | e; (rw [e]; exact hCA); (rw [e]; intro e2; simp at e2; have := (Array.getElem?_eq_some_iff.1 hC).1; omega)
            refine hK.out _ _ hS' (fun hHeld => ?_)
            clear hK K
            try simp only [Act.put, List.setIfInBounds_toArray, List.set_cons_zero, List.set_cons_succ]
            clear hB hA hC hCA hS' hgr hat
            have hB := hB'
            have hA := hA'
            have hC := hC'
            have hCA := hCA'
            clear hB' hA' hC' hCA'
            obtain ⟨vA, evA⟩ : ∃ x, x = vB := ⟨_, rfl⟩
            subst evA
            obtain ⟨aD, lD, cD, rfl⟩ := row_form hA
            refine wpAnyH_take (i := 9) (oi := { dst := some 22, op := _, type := _, pos := _, after := _, guard := _ }) (v := ?_) rfl (by kernel_rfl) (by kernel_rfl) (by kernel_rfl) (fun _ _ _ h => h) (Or.inl ⟨by rfl, ?_⟩) (by assumption) ?_
            rotate_left 1
            · intro u s1; have k0 : u.cell? ⟨w.heap.size, 0, none⟩ = some (.int .i64 t) := (by rw [Go.Joins.cell_of_block s1]; rfl); have k1 : u.cell? ⟨w.heap.size, 1, none⟩ = some (.slice ao len cap) := (by rw [Go.Joins.cell_of_block s1]; rfl); go_simp; try with_reducible rfl
            try simp only [Act.put, List.setIfInBounds_toArray, List.set_cons_zero, List.set_cons_succ]
            refine wpAnyH_ready (rs := [10]) (by kernel_rfl) (by simp) ?_
            refine AllReadyH.cons (o := { dst := some 4, op := _, type := _, pos := _, after := _, guard := _ }) rfl (fun K hK => ?_) ?_
            · skip
              go_simp
              have hS' := (blk_alloc' W4 (.cells #[.int .i64 0, .slice none 0 0] 26) w.heap.size (by have := hB.size; omega)).trans hHeld
              have hB' := below_more hB (.cells #[.int .i64 0, .slice none 0 0] 26)
              have hA' := World.ownsRow.alloc hA (.cells #[.int .i64 0, .slice none 0 0] 26)
              have hAl : ∀ j, (Value.slice aD lD cD).ownBlock = some j → j ≠ W4.heap.size := fun j hj e => by have := (World.ownsRow.lt hA j hj).2; omega
              have hC' := (blk_alloc' W4 (.cells #[.int .i64 0, .slice none 0 0] 26) gC (Array.getElem?_eq_some_iff.1 hC).1).trans hC
              have hF' := heap_alloc_new W4 (.cells #[.int .i64 0, .slice none 0 0] 26)
              refine hK.out _ _ hS' (fun hHeld => ?_)
              clear hK K
              try simp only [Act.put, List.setIfInBounds_toArray, List.set_cons_zero, List.set_cons_succ]
              have hFA : (Value.slice aD lD cD).ownBlock ≠ some W4.heap.size := fun e => hAl _ e rfl
              have hpF : w1.heap.size ≤ W4.heap.size := hB.size
              obtain ⟨pF, epF⟩ : ∃ x, x = W4.heap.size := ⟨_, rfl⟩
              rw [← epF] at hF' hpF ⊢ hFA
              have hCF : gC ≠ pF := by rw [epF]; have := (Array.getElem?_eq_some_iff.1 hC).1; omega
              clear epF
              clear hB hA hC hS'
              generalize W4.alloc (.cells #[.int .i64 0, .slice none 0 0] 26) = W5 at hB' hA' hC' hF' hHeld ⊢
              have hB := hB'
              have hA := hA'
              have hC := hC'
              have hF := hF'
              clear hB' hA' hC' hF'
              refine wpAnyH_ready (rs := [11]) (by kernel_rfl) (by simp) ?_
              refine AllReadyH.cons (o := { dst := none, op := _, type := _, pos := _, after := _, guard := _ }) rfl (fun K hK => ?_) ?_
              · skip
                have e0 : W5.cell? ⟨pF, 0, none⟩ = some (.int .i64 0) := by rw [Go.Joins.cell_of_block hF]; rfl
                have e1 : W5.cell? ⟨pF, 1, none⟩ = some (.slice none 0 0) := by rw [Go.Joins.cell_of_block hF]; rfl
                have ef0 := Go.Joins.unfrozen_of_block hF 0
                have ef1 := Go.Joins.unfrozen_of_block hF 1
                have hpl : pF < W5.heap.size := (Array.getElem?_eq_some_iff.1 hF).1
                have FIN : ((W5.setCell ⟨pF, 0, none⟩ (.int .i64 t)).setCell ⟨pF, 1, none⟩ (.slice aD lD cD)).heap[pF]? = some (.cells #[.int .i64 t, .slice aD lD cD] 26 (0, 0)) := blk_set2 hF _ _
                have ROW := World.ownsRow.kept hA (set2 W5 pF (.int .i64 t) (.slice aD lD cD)) (.inr hFA)
                have BLW : Below w1.heap.size w1 ((W5.setCell ⟨pF, 0, none⟩ (.int .i64 t)).setCell ⟨pF, 1, none⟩ (.slice aD lD cD)) := (hB.setCell (p := ⟨pF, 0, none⟩) (by simpa using hpF) _).setCell (p := ⟨pF, 1, none⟩) (by simpa using hpF) _
                have hS' : ((W5.setCell ⟨pF, 0, none⟩ (.int .i64 t)).setCell ⟨pF, 1, none⟩ (.slice aD lD cD)).heap[w.heap.size]? = some (.cells #[.int .i64 t, .slice ao len cap] 26 (0, 0)) := ((set2 W5 pF (.int .i64 t) (.slice aD lD cD)).block w.heap.size (by have := hB.size; omega) (by simp; omega)).trans hHeld
                go_simp
                refine hK.out _ _ hS' (fun hHeld => ?_)
                clear hK K
                try simp only [Act.put, List.setIfInBounds_toArray, List.set_cons_zero, List.set_cons_succ]
                refine wpAnyH_done (by kernel_rfl) ?_ _
                refine NoPanic.normal ?_
                refine hK1 _ _ (Met.intro (hJ1 _ _ ?_))
                (repeat apply Exists.intro)
                refine ⟨?_, rfl⟩
                exact ⟨_, _, _, _, rfl, FIN, ROW, BLW, hpF, hFA⟩
              exact AllReadyH.nil
            exact AllReadyH.nil
          refine AllReadyH.cons (o := { dst := some 4, op := _, type := _, pos := _, after := _, guard := _ }) rfl (fun K hK => ?_) ?_
          · skip
            go_simp
            have hS' := (blk_alloc' W3 (.cells #[.int .i64 0, .slice none 0 0] 26) w.heap.size (by have := hB.size; omega)).trans hHeld
            have hB' := below_more hB (.cells #[.int .i64 0, .slice none 0 0] 26)
            have hA' := World.ownsRow.alloc hA (.cells #[.int .i64 0, .slice none 0 0] 26)
            have hAl : ∀ j, vA.ownBlock = some j → j ≠ W3.heap.size := fun j hj e => by have := (World.ownsRow.lt hA j hj).2; omega
            have hC' := (blk_alloc' W3 (.cells #[.int .i64 0, .slice none 0 0] 26) gC (Array.getElem?_eq_some_iff.1 hC).1).trans hC
            have hF' := heap_alloc_new W3 (.cells #[.int .i64 0, .slice none 0 0] 26)
            refine hK.out _ _ hS' (fun hHeld => ?_)
            clear hK K
            try simp only [Act.put, List.setIfInBounds_toArray, List.set_cons_zero, List.set_cons_succ]
            have hFA : vA.ownBlock ≠ some W3.heap.size := fun e => hAl _ e rfl
            have hpF : w1.heap.size ≤ W3.heap.size := hB.size
            obtain ⟨pF, epF⟩ : ∃ x, x = W3.heap.size := ⟨_, rfl⟩
            rw [← epF] at hF' hpF ⊢ hFA
            have hCF : gC ≠ pF := by rw [epF]; have := (Array.getElem?_eq_some_iff.1 hC).1; omega
            clear epF
            clear hB hA hC hS'
            generalize W3.alloc (.cells #[.int .i64 0, .slice none 0 0] 26) = W4 at hB' hA' hC' hF' hHeld ⊢
            have hB := hB'
            have hA := hA'
            have hC := hC'
            have hF := hF'
            clear hB' hA' hC' hF'
            refine wpAnyH_ready (rs := [8]) (by kernel_rfl) (by simp) ?_
            refine AllReadyH.cons (o := { dst := some 21, op := _, type := _, pos := _, after := _, guard := _ }) rfl (fun K hK => ?_) ?_
            · skip
              refine step_append_seq (by rfl) _ _ _ (by rfl) w1.heap.size 28 i0 (.agg #[.string .empty, .string .empty, .bool false]) 40 Try.underlying24 hi hz0 hz1 hz2 rfl vA len (ws.flatMap Wr.cells) (by rfl) hA (some ⟨gC, 0, none⟩) 1 1 [mark] (by rfl) (seq_one hC) (fun e => by cases e) (fun _ => rfl) wr_one (by unfold maxLen; omega) (by omega) hB.size ?_
              intro vB W5 hA' hgr hat
              rw [List.flatMap_singleton] at hA'
              have hB' : Below w1.heap.size w1 W5 := hB.trans ⟨hgr.os, hgr.tape, hgr.output, hgr.size, fun k hk => hgr.block k (Nat.lt_of_lt_of_le hk hB.size) (fun e => by have := (World.ownsRow.lt hA k e.symm).1; omega)⟩
              have hS' := (hgr.block w.heap.size (by have := hB.size; omega) (fun e => by have := (World.ownsRow.lt hA _ e.symm).1; omega)).trans hHeld
              have hC' := (hgr.block gC (Array.getElem?_eq_some_iff.1 hC).1 (fun e => hCA e.symm)).trans hC
              have hCA' : vB.ownBlock ≠ some gC := by rcases hat with e | e; (rw [e]; exact hCA); (rw [e]; intro e2; simp at e2; have := (Array.getElem?_eq_some_iff.1 hC).1; omega)
              have hF' := (hgr.block pF (Array.getElem?_eq_some_iff.1 hF).1 (fun e => hFA e.symm)).trans hF
              have hFA' : vB.ownBlock ≠ some pF := by rcases hat with e | e; (rw [e]; exact hFA); (rw [e]; intro e2; simp at e2; have := (Array.getElem?_eq_some_iff.1 hF).1; omega)
              refine hK.out _ _ hS' (fun hHeld => ?_)
              clear hK K
              try simp only [Act.put, List.setIfInBounds_toArray, List.set_cons_zero, List.set_cons_succ]
              clear hB hA hC hCA hF hFA hS' hgr hat
              have hB := hB'
              have hA := hA'
              have hC := hC'
              have hCA := hCA'
              have hF := hF'
              have hFA := hFA'
              clear hB' hA' hC' hCA' hF' hFA'
              obtain ⟨vA, evA⟩ : ∃ x, x = vB := ⟨_, rfl⟩
              subst evA
              obtain ⟨aD, lD, cD, rfl⟩ := row_form hA
              refine wpAnyH_take (i := 9) (oi := { dst := some 22, op := _, type := _, pos := _, after := _, guard := _ }) (v := ?_) rfl (by kernel_rfl) (by kernel_rfl) (by kernel_rfl) (fun _ _ _ h => h) (Or.inl ⟨by rfl, ?_⟩) (by assumption) ?_
              rotate_left 1
              · intro u s1; have k0 : u.cell? ⟨w.heap.size, 0, none⟩ = some (.int .i64 t) := (by rw [Go.Joins.cell_of_block s1]; rfl); have k1 : u.cell? ⟨w.heap.size, 1, none⟩ = some (.slice ao len cap) := (by rw [Go.Joins.cell_of_block s1]; rfl); go_simp; try with_reducible rfl
              try simp only [Act.put, List.setIfInBounds_toArray, List.set_cons_zero, List.set_cons_succ]
              refine wpAnyH_ready (rs := [11]) (by kernel_rfl) (by simp) ?_
              refine AllReadyH.cons (o := { dst := none, op := _, type := _, pos := _, after := _, guard := _ }) rfl (fun K hK => ?_) ?_
              · skip
                have e0 : W5.cell? ⟨pF, 0, none⟩ = some (.int .i64 0) := by rw [Go.Joins.cell_of_block hF]; rfl
                have e1 : W5.cell? ⟨pF, 1, none⟩ = some (.slice none 0 0) := by rw [Go.Joins.cell_of_block hF]; rfl
                have ef0 := Go.Joins.unfrozen_of_block hF 0
                have ef1 := Go.Joins.unfrozen_of_block hF 1
                have hpl : pF < W5.heap.size := (Array.getElem?_eq_some_iff.1 hF).1
                have FIN : ((W5.setCell ⟨pF, 0, none⟩ (.int .i64 t)).setCell ⟨pF, 1, none⟩ (.slice aD lD cD)).heap[pF]? = some (.cells #[.int .i64 t, .slice aD lD cD] 26 (0, 0)) := blk_set2 hF _ _
                have ROW := World.ownsRow.kept hA (set2 W5 pF (.int .i64 t) (.slice aD lD cD)) (.inr hFA)
                have BLW : Below w1.heap.size w1 ((W5.setCell ⟨pF, 0, none⟩ (.int .i64 t)).setCell ⟨pF, 1, none⟩ (.slice aD lD cD)) := (hB.setCell (p := ⟨pF, 0, none⟩) (by simpa using hpF) _).setCell (p := ⟨pF, 1, none⟩) (by simpa using hpF) _
                have hS' : ((W5.setCell ⟨pF, 0, none⟩ (.int .i64 t)).setCell ⟨pF, 1, none⟩ (.slice aD lD cD)).heap[w.heap.size]? = some (.cells #[.int .i64 t, .slice ao len cap] 26 (0, 0)) := ((set2 W5 pF (.int .i64 t) (.slice aD lD cD)).block w.heap.size (by have := hB.size; omega) (by simp; omega)).trans hHeld
                go_simp
                refine hK.out _ _ hS' (fun hHeld => ?_)
                clear hK K
                try simp only [Act.put, List.setIfInBounds_toArray, List.set_cons_zero, List.set_cons_succ]
                refine wpAnyH_done (by kernel_rfl) ?_ _
                refine NoPanic.normal ?_
                refine hK1 _ _ (Met.intro (hJ1 _ _ ?_))
                (repeat apply Exists.intro)
                refine ⟨?_, rfl⟩
                exact ⟨_, _, _, _, rfl, FIN, ROW, BLW, hpF, hFA⟩
              exact AllReadyH.nil
            exact AllReadyH.nil
          exact AllReadyH.nil
        refine AllReadyH.cons (o := { dst := some 4, op := _, type := _, pos := _, after := _, guard := _ }) rfl (fun K hK => ?_) ?_
        · skip
          go_simp
          have hS' := (blk_alloc' W2 (.cells #[.int .i64 0, .slice none 0 0] 26) w.heap.size (by have := hB.size; omega)).trans hHeld
          have hB' := below_more hB (.cells #[.int .i64 0, .slice none 0 0] 26)
          have hA' := World.ownsRow.alloc hA (.cells #[.int .i64 0, .slice none 0 0] 26)
          have hAl : ∀ j, vA.ownBlock = some j → j ≠ W2.heap.size := fun j hj e => by have := (World.ownsRow.lt hA j hj).2; omega
          have hF' := heap_alloc_new W2 (.cells #[.int .i64 0, .slice none 0 0] 26)
          refine hK.out _ _ hS' (fun hHeld => ?_)
          clear hK K
          try simp only [Act.put, List.setIfInBounds_toArray, List.set_cons_zero, List.set_cons_succ]
          have hFA : vA.ownBlock ≠ some W2.heap.size := fun e => hAl _ e rfl
          have hpF : w1.heap.size ≤ W2.heap.size := hB.size
          obtain ⟨pF, epF⟩ : ∃ x, x = W2.heap.size := ⟨_, rfl⟩
          rw [← epF] at hF' hpF ⊢ hFA
          clear epF
          clear hB hA hS'
          generalize W2.alloc (.cells #[.int .i64 0, .slice none 0 0] 26) = W3 at hB' hA' hF' hHeld ⊢
          have hB := hB'
          have hA := hA'
          have hF := hF'
          clear hB' hA' hF'
          refine wpAnyH_ready (rs := [7]) (by kernel_rfl) (by simp) ?_
          refine AllReadyH.cons (o := { dst := some 20, op := _, type := _, pos := _, after := _, guard := _ }) rfl (fun K hK => ?_) ?_
          · skip
            go_simp
            have hS' := (blk_alloc' W3 (.cells #[.string ⟨#[109, 97, 114, 107]⟩, .string ⟨#[]⟩, .bool false] 28) w.heap.size (by have := hB.size; omega)).trans hHeld
            have hB' := below_more hB (.cells #[.string ⟨#[109, 97, 114, 107]⟩, .string ⟨#[]⟩, .bool false] 28)
            have hA' := World.ownsRow.alloc hA (.cells #[.string ⟨#[109, 97, 114, 107]⟩, .string ⟨#[]⟩, .bool false] 28)
            have hAl : ∀ j, vA.ownBlock = some j → j ≠ W3.heap.size := fun j hj e => by have := (World.ownsRow.lt hA j hj).2; omega
            have hF' := (blk_alloc' W3 (.cells #[.string ⟨#[109, 97, 114, 107]⟩, .string ⟨#[]⟩, .bool false] 28) pF (Array.getElem?_eq_some_iff.1 hF).1).trans hF
            have hC' := heap_alloc_new W3 (.cells #[.string ⟨#[109, 97, 114, 107]⟩, .string ⟨#[]⟩, .bool false] 28)
            refine hK.out _ _ hS' (fun hHeld => ?_)
            clear hK K
            try simp only [Act.put, List.setIfInBounds_toArray, List.set_cons_zero, List.set_cons_succ]
            have hCA : vA.ownBlock ≠ some W3.heap.size := fun e => hAl _ e rfl
            have hgC : w1.heap.size ≤ W3.heap.size := hB.size
            obtain ⟨gC, egC⟩ : ∃ x, x = W3.heap.size := ⟨_, rfl⟩
            rw [← egC] at hC' hgC ⊢ hCA
            have hCF : gC ≠ pF := by rw [egC]; have := (Array.getElem?_eq_some_iff.1 hF).1; omega
            clear egC
            clear hB hA hF hS'
            generalize W3.alloc (.cells #[.string ⟨#[109, 97, 114, 107]⟩, .string ⟨#[]⟩, .bool false] 28) = W4 at hB' hA' hC' hF' hHeld ⊢
            have hB := hB'
            have hA := hA'
            have hC := hC'
            have hF := hF'
            clear hB' hA' hC' hF'
            refine wpAnyH_ready (rs := [8]) (by kernel_rfl) (by simp) ?_
            refine AllReadyH.cons (o := { dst := some 21, op := _, type := _, pos := _, after := _, guard := _ }) rfl (fun K hK => ?_) ?_
            · skip
              refine step_append_seq (by rfl) _ _ _ (by rfl) w1.heap.size 28 i0 (.agg #[.string .empty, .string .empty, .bool false]) 40 Try.underlying24 hi hz0 hz1 hz2 rfl vA len (ws.flatMap Wr.cells) (by rfl) hA (some ⟨gC, 0, none⟩) 1 1 [mark] (by rfl) (seq_one hC) (fun e => by cases e) (fun _ => rfl) wr_one (by unfold maxLen; omega) (by omega) hB.size ?_
              intro vB W5 hA' hgr hat
              rw [List.flatMap_singleton] at hA'
              have hB' : Below w1.heap.size w1 W5 := hB.trans ⟨hgr.os, hgr.tape, hgr.output, hgr.size, fun k hk => hgr.block k (Nat.lt_of_lt_of_le hk hB.size) (fun e => by have := (World.ownsRow.lt hA k e.symm).1; omega)⟩
              have hS' := (hgr.block w.heap.size (by have := hB.size; omega) (fun e => by have := (World.ownsRow.lt hA _ e.symm).1; omega)).trans hHeld
              have hC' := (hgr.block gC (Array.getElem?_eq_some_iff.1 hC).1 (fun e => hCA e.symm)).trans hC
              have hCA' : vB.ownBlock ≠ some gC := by rcases hat with e | e; (rw [e]; exact hCA); (rw [e]; intro e2; simp at e2; have := (Array.getElem?_eq_some_iff.1 hC).1; omega)
              have hF' := (hgr.block pF (Array.getElem?_eq_some_iff.1 hF).1 (fun e => hFA e.symm)).trans hF
              have hFA' : vB.ownBlock ≠ some pF := by rcases hat with e | e; (rw [e]; exact hFA); (rw [e]; intro e2; simp at e2; have := (Array.getElem?_eq_some_iff.1 hF).1; omega)
              refine hK.out _ _ hS' (fun hHeld => ?_)
              clear hK K
              try simp only [Act.put, List.setIfInBounds_toArray, List.set_cons_zero, List.set_cons_succ]
              clear hB hA hC hCA hF hFA hS' hgr hat
              have hB := hB'
              have hA := hA'
              have hC := hC'
              have hCA := hCA'
              have hF := hF'
              have hFA := hFA'
              clear hB' hA' hC' hCA' hF' hFA'
              obtain ⟨vA, evA⟩ : ∃ x, x = vB := ⟨_, rfl⟩
              subst evA
              obtain ⟨aD, lD, cD, rfl⟩ := row_form hA
              refine wpAnyH_take (i := 9) (oi := { dst := some 22, op := _, type := _, pos := _, after := _, guard := _ }) (v := ?_) rfl (by kernel_rfl) (by kernel_rfl) (by kernel_rfl) (fun _ _ _ h => h) (Or.inl ⟨by rfl, ?_⟩) (by assumption) ?_
              rotate_left 1
              · intro u s1; have k0 : u.cell? ⟨w.heap.size, 0, none⟩ = some (.int .i64 t) := (by rw [Go.Joins.cell_of_block s1]; rfl); have k1 : u.cell? ⟨w.heap.size, 1, none⟩ = some (.slice ao len cap) := (by rw [Go.Joins.cell_of_block s1]; rfl); go_simp; try with_reducible rfl
              try simp only [Act.put, List.setIfInBounds_toArray, List.set_cons_zero, List.set_cons_succ]
              refine wpAnyH_ready (rs := [11]) (by kernel_rfl) (by simp) ?_
              refine AllReadyH.cons (o := { dst := none, op := _, type := _, pos := _, after := _, guard := _ }) rfl (fun K hK => ?_) ?_
              · skip
                have e0 : W5.cell? ⟨pF, 0, none⟩ = some (.int .i64 0) := by rw [Go.Joins.cell_of_block hF]; rfl
                have e1 : W5.cell? ⟨pF, 1, none⟩ = some (.slice none 0 0) := by rw [Go.Joins.cell_of_block hF]; rfl
                have ef0 := Go.Joins.unfrozen_of_block hF 0
                have ef1 := Go.Joins.unfrozen_of_block hF 1
                have hpl : pF < W5.heap.size := (Array.getElem?_eq_some_iff.1 hF).1
                have FIN : ((W5.setCell ⟨pF, 0, none⟩ (.int .i64 t)).setCell ⟨pF, 1, none⟩ (.slice aD lD cD)).heap[pF]? = some (.cells #[.int .i64 t, .slice aD lD cD] 26 (0, 0)) := blk_set2 hF _ _
                have ROW := World.ownsRow.kept hA (set2 W5 pF (.int .i64 t) (.slice aD lD cD)) (.inr hFA)
                have BLW : Below w1.heap.size w1 ((W5.setCell ⟨pF, 0, none⟩ (.int .i64 t)).setCell ⟨pF, 1, none⟩ (.slice aD lD cD)) := (hB.setCell (p := ⟨pF, 0, none⟩) (by simpa using hpF) _).setCell (p := ⟨pF, 1, none⟩) (by simpa using hpF) _
                have hS' : ((W5.setCell ⟨pF, 0, none⟩ (.int .i64 t)).setCell ⟨pF, 1, none⟩ (.slice aD lD cD)).heap[w.heap.size]? = some (.cells #[.int .i64 t, .slice ao len cap] 26 (0, 0)) := ((set2 W5 pF (.int .i64 t) (.slice aD lD cD)).block w.heap.size (by have := hB.size; omega) (by simp; omega)).trans hHeld
                go_simp
                refine hK.out _ _ hS' (fun hHeld => ?_)
                clear hK K
                try simp only [Act.put, List.setIfInBounds_toArray, List.set_cons_zero, List.set_cons_succ]
                refine wpAnyH_done (by kernel_rfl) ?_ _
                refine NoPanic.normal ?_
                refine hK1 _ _ (Met.intro (hJ1 _ _ ?_))
                (repeat apply Exists.intro)
                refine ⟨?_, rfl⟩
                exact ⟨_, _, _, _, rfl, FIN, ROW, BLW, hpF, hFA⟩
              exact AllReadyH.nil
            exact AllReadyH.nil
          exact AllReadyH.nil
        exact AllReadyH.nil
      refine AllReadyH.cons (o := { dst := some 20, op := _, type := _, pos := _, after := _, guard := _ }) rfl (fun K hK => ?_) ?_
      · skip
        go_simp
        have hS' := (blk_alloc' W1 (.cells #[.string ⟨#[109, 97, 114, 107]⟩, .string ⟨#[]⟩, .bool false] 28) w.heap.size (by have := hB.size; omega)).trans hHeld
        have hB' := below_more hB (.cells #[.string ⟨#[109, 97, 114, 107]⟩, .string ⟨#[]⟩, .bool false] 28)
        have hA' := World.ownsRow.alloc hA (.cells #[.string ⟨#[109, 97, 114, 107]⟩, .string ⟨#[]⟩, .bool false] 28)
        have hAl : ∀ j, vA.ownBlock = some j → j ≠ W1.heap.size := fun j hj e => by have := (World.ownsRow.lt hA j hj).2; omega
        have hC' := heap_alloc_new W1 (.cells #[.string ⟨#[109, 97, 114, 107]⟩, .string ⟨#[]⟩, .bool false] 28)
        refine hK.out _ _ hS' (fun hHeld => ?_)
        clear hK K
        try simp only [Act.put, List.setIfInBounds_toArray, List.set_cons_zero, List.set_cons_succ]
        have hCA : vA.ownBlock ≠ some W1.heap.size := fun e => hAl _ e rfl
        have hgC : w1.heap.size ≤ W1.heap.size := hB.size
        obtain ⟨gC, egC⟩ : ∃ x, x = W1.heap.size := ⟨_, rfl⟩
        rw [← egC] at hC' hgC ⊢ hCA
        clear egC
        clear hB hA hS'
        generalize W1.alloc (.cells #[.string ⟨#[109, 97, 114, 107]⟩, .string ⟨#[]⟩, .bool false] 28) = W2 at hB' hA' hC' hHeld ⊢
        have hB := hB'
        have hA := hA'
        have hC := hC'
        clear hB' hA' hC'
        refine wpAnyH_ready (rs := [5, 10]) (by kernel_rfl) (by simp) ?_
        refine AllReadyH.cons (o := { dst := some 18, op := _, type := _, pos := _, after := _, guard := _ }) rfl (fun K hK => ?_) ?_
        · skip
          refine step_append_seq (by rfl) _ _ _ (by rfl) w1.heap.size 28 i0 (.agg #[.string .empty, .string .empty, .bool false]) 40 Try.underlying24 hi hz0 hz1 hz2 rfl vA 0 [] (by rfl) hA ao len cap ws (by rfl) ((HS.out.keep B1).keep hB) (fun e => by rcases Nat.eq_zero_or_pos len with h0 | h0; exact ⟨h0, hcap0 e⟩; obtain ⟨b, off, e2, _⟩ := HS.out.2.2.2 h0; rw [e] at e2; cases e2) (fun _ => rfl) wr_one (by unfold maxLen; omega) (by omega) hB.size ?_
          intro vB W3 hA' hgr hat
          rw [Nat.zero_add, List.nil_append] at hA'
          have hB' : Below w1.heap.size w1 W3 := hB.trans ⟨hgr.os, hgr.tape, hgr.output, hgr.size, fun k hk => hgr.block k (Nat.lt_of_lt_of_le hk hB.size) (fun e => by have := (World.ownsRow.lt hA k e.symm).1; omega)⟩
          have hS' := (hgr.block w.heap.size (by have := hB.size; omega) (fun e => by have := (World.ownsRow.lt hA _ e.symm).1; omega)).trans hHeld
          have hC' := (hgr.block gC (Array.getElem?_eq_some_iff.1 hC).1 (fun e => hCA e.symm)).trans hC
          have hCA' : vB.ownBlock ≠ some gC := by rcases hat with e | e; (rw [e]; exact hCA); (rw [e]; intro e2; simp at e2; have := (Array.getElem?_eq_some_iff.1 hC).1; omega)
          refine hK.out _ _ hS' (fun hHeld => ?_)
          clear hK K
          try simp only [Act.put, List.setIfInBounds_toArray, List.set_cons_zero, List.set_cons_succ]
          clear hB hA hC hCA hS' hgr hat
          have hB := hB'
          have hA := hA'
          have hC := hC'
          have hCA := hCA'
          clear hB' hA' hC' hCA'
          obtain ⟨vA, evA⟩ : ∃ x, x = vB := ⟨_, rfl⟩
          subst evA
          refine wpAnyH_ready (rs := [8, 10]) (by kernel_rfl) (by simp) ?_
          refine AllReadyH.cons (o := { dst := some 21, op := _, type := _, pos := _, after := _, guard := _ }) rfl (fun K hK => ?_) ?_
          · skip
            refine step_append_seq (by rfl) _ _ _ (by rfl) w1.heap.size 28 i0 (.agg #[.string .empty, .string .empty, .bool false]) 40 Try.underlying24 hi hz0 hz1 hz2 rfl vA len (ws.flatMap Wr.cells) (by rfl) hA (some ⟨gC, 0, none⟩) 1 1 [mark] (by rfl) (seq_one hC) (fun e => by cases e) (fun _ => rfl) wr_one (by unfold maxLen; omega) (by omega) hB.size ?_
            intro vB W4 hA' hgr hat
            rw [List.flatMap_singleton] at hA'
            have hB' : Below w1.heap.size w1 W4 := hB.trans ⟨hgr.os, hgr.tape, hgr.output, hgr.size, fun k hk => hgr.block k (Nat.lt_of_lt_of_le hk hB.size) (fun e => by have := (World.ownsRow.lt hA k e.symm).1; omega)⟩
            have hS' := (hgr.block w.heap.size (by have := hB.size; omega) (fun e => by have := (World.ownsRow.lt hA _ e.symm).1; omega)).trans hHeld
            have hC' := (hgr.block gC (Array.getElem?_eq_some_iff.1 hC).1 (fun e => hCA e.symm)).trans hC
            have hCA' : vB.ownBlock ≠ some gC := by rcases hat with e | e; (rw [e]; exact hCA); (rw [e]; intro e2; simp at e2; have := (Array.getElem?_eq_some_iff.1 hC).1; omega)
            refine hK.out _ _ hS' (fun hHeld => ?_)
            clear hK K
            try simp only [Act.put, List.setIfInBounds_toArray, List.set_cons_zero, List.set_cons_succ]
            clear hB hA hC hCA hS' hgr hat
            have hB := hB'
            have hA := hA'
            have hC := hC'
            have hCA := hCA'
            clear hB' hA' hC' hCA'
            obtain ⟨vA, evA⟩ : ∃ x, x = vB := ⟨_, rfl⟩
            subst evA
            obtain ⟨aD, lD, cD, rfl⟩ := row_form hA
            refine wpAnyH_take (i := 9) (oi := { dst := some 22, op := _, type := _, pos := _, after := _, guard := _ }) (v := ?_) rfl (by kernel_rfl) (by kernel_rfl) (by kernel_rfl) (fun _ _ _ h => h) (Or.inl ⟨by rfl, ?_⟩) (by assumption) ?_
            rotate_left 1
            · intro u s1; have k0 : u.cell? ⟨w.heap.size, 0, none⟩ = some (.int .i64 t) := (by rw [Go.Joins.cell_of_block s1]; rfl); have k1 : u.cell? ⟨w.heap.size, 1, none⟩ = some (.slice ao len cap) := (by rw [Go.Joins.cell_of_block s1]; rfl); go_simp; try with_reducible rfl
            try simp only [Act.put, List.setIfInBounds_toArray, List.set_cons_zero, List.set_cons_succ]
            refine wpAnyH_ready (rs := [10]) (by kernel_rfl) (by simp) ?_
            refine AllReadyH.cons (o := { dst := some 4, op := _, type := _, pos := _, after := _, guard := _ }) rfl (fun K hK => ?_) ?_
            · skip
              go_simp
              have hS' := (blk_alloc' W4 (.cells #[.int .i64 0, .slice none 0 0] 26) w.heap.size (by have := hB.size; omega)).trans hHeld
              have hB' := below_more hB (.cells #[.int .i64 0, .slice none 0 0] 26)
              have hA' := World.ownsRow.alloc hA (.cells #[.int .i64 0, .slice none 0 0] 26)
              have hAl : ∀ j, (Value.slice aD lD cD).ownBlock = some j → j ≠ W4.heap.size := fun j hj e => by have := (World.ownsRow.lt hA j hj).2; omega
              have hC' := (blk_alloc' W4 (.cells #[.int .i64 0, .slice none 0 0] 26) gC (Array.getElem?_eq_some_iff.1 hC).1).trans hC
              have hF' := heap_alloc_new W4 (.cells #[.int .i64 0, .slice none 0 0] 26)
              refine hK.out _ _ hS' (fun hHeld => ?_)
              clear hK K
              try simp only [Act.put, List.setIfInBounds_toArray, List.set_cons_zero, List.set_cons_succ]
              have hFA : (Value.slice aD lD cD).ownBlock ≠ some W4.heap.size := fun e => hAl _ e rfl
              have hpF : w1.heap.size ≤ W4.heap.size := hB.size
              obtain ⟨pF, epF⟩ : ∃ x, x = W4.heap.size := ⟨_, rfl⟩
              rw [← epF] at hF' hpF ⊢ hFA
              have hCF : gC ≠ pF := by rw [epF]; have := (Array.getElem?_eq_some_iff.1 hC).1; omega
              clear epF
              clear hB hA hC hS'
              generalize W4.alloc (.cells #[.int .i64 0, .slice none 0 0] 26) = W5 at hB' hA' hC' hF' hHeld ⊢
              have hB := hB'
              have hA := hA'
              have hC := hC'
              have hF := hF'
              clear hB' hA' hC' hF'
              refine wpAnyH_ready (rs := [11]) (by kernel_rfl) (by simp) ?_
              refine AllReadyH.cons (o := { dst := none, op := _, type := _, pos := _, after := _, guard := _ }) rfl (fun K hK => ?_) ?_
              · skip
                have e0 : W5.cell? ⟨pF, 0, none⟩ = some (.int .i64 0) := by rw [Go.Joins.cell_of_block hF]; rfl
                have e1 : W5.cell? ⟨pF, 1, none⟩ = some (.slice none 0 0) := by rw [Go.Joins.cell_of_block hF]; rfl
                have ef0 := Go.Joins.unfrozen_of_block hF 0
                have ef1 := Go.Joins.unfrozen_of_block hF 1
                have hpl : pF < W5.heap.size := (Array.getElem?_eq_some_iff.1 hF).1
                have FIN : ((W5.setCell ⟨pF, 0, none⟩ (.int .i64 t)).setCell ⟨pF, 1, none⟩ (.slice aD lD cD)).heap[pF]? = some (.cells #[.int .i64 t, .slice aD lD cD] 26 (0, 0)) := blk_set2 hF _ _
                have ROW := World.ownsRow.kept hA (set2 W5 pF (.int .i64 t) (.slice aD lD cD)) (.inr hFA)
                have BLW : Below w1.heap.size w1 ((W5.setCell ⟨pF, 0, none⟩ (.int .i64 t)).setCell ⟨pF, 1, none⟩ (.slice aD lD cD)) := (hB.setCell (p := ⟨pF, 0, none⟩) (by simpa using hpF) _).setCell (p := ⟨pF, 1, none⟩) (by simpa using hpF) _
                have hS' : ((W5.setCell ⟨pF, 0, none⟩ (.int .i64 t)).setCell ⟨pF, 1, none⟩ (.slice aD lD cD)).heap[w.heap.size]? = some (.cells #[.int .i64 t, .slice ao len cap] 26 (0, 0)) := ((set2 W5 pF (.int .i64 t) (.slice aD lD cD)).block w.heap.size (by have := hB.size; omega) (by simp; omega)).trans hHeld
                go_simp
                refine hK.out _ _ hS' (fun hHeld => ?_)
                clear hK K
                try simp only [Act.put, List.setIfInBounds_toArray, List.set_cons_zero, List.set_cons_succ]
                refine wpAnyH_done (by kernel_rfl) ?_ _
                refine NoPanic.normal ?_
                refine hK1 _ _ (Met.intro (hJ1 _ _ ?_))
                (repeat apply Exists.intro)
                refine ⟨?_, rfl⟩
                exact ⟨_, _, _, _, rfl, FIN, ROW, BLW, hpF, hFA⟩
              exact AllReadyH.nil
            exact AllReadyH.nil
          refine AllReadyH.cons (o := { dst := some 4, op := _, type := _, pos := _, after := _, guard := _ }) rfl (fun K hK => ?_) ?_
          · skip
            go_simp
            have hS' := (blk_alloc' W3 (.cells #[.int .i64 0, .slice none 0 0] 26) w.heap.size (by have := hB.size; omega)).trans hHeld
            have hB' := below_more hB (.cells #[.int .i64 0, .slice none 0 0] 26)
            have hA' := World.ownsRow.alloc hA (.cells #[.int .i64 0, .slice none 0 0] 26)
            have hAl : ∀ j, vA.ownBlock = some j → j ≠ W3.heap.size := fun j hj e => by have := (World.ownsRow.lt hA j hj).2; omega
            have hC' := (blk_alloc' W3 (.cells #[.int .i64 0, .slice none 0 0] 26) gC (Array.getElem?_eq_some_iff.1 hC).1).trans hC
            have hF' := heap_alloc_new W3 (.cells #[.int .i64 0, .slice none 0 0] 26)
            refine hK.out _ _ hS' (fun hHeld => ?_)
            clear hK K
            try simp only [Act.put, List.setIfInBounds_toArray, List.set_cons_zero, List.set_cons_succ]
            have hFA : vA.ownBlock ≠ some W3.heap.size := fun e => hAl _ e rfl
            have hpF : w1.heap.size ≤ W3.heap.size := hB.size
            obtain ⟨pF, epF⟩ : ∃ x, x = W3.heap.size := ⟨_, rfl⟩
            rw [← epF] at hF' hpF ⊢ hFA
            have hCF : gC ≠ pF := by rw [epF]; have := (Array.getElem?_eq_some_iff.1 hC).1; omega
            clear epF
            clear hB hA hC hS'
            generalize W3.alloc (.cells #[.int .i64 0, .slice none 0 0] 26) = W4 at hB' hA' hC' hF' hHeld ⊢
            have hB := hB'
            have hA := hA'
            have hC := hC'
            have hF := hF'
            clear hB' hA' hC' hF'
            refine wpAnyH_ready (rs := [8]) (by kernel_rfl) (by simp) ?_
            refine AllReadyH.cons (o := { dst := some 21, op := _, type := _, pos := _, after := _, guard := _ }) rfl (fun K hK => ?_) ?_
            · skip
              refine step_append_seq (by rfl) _ _ _ (by rfl) w1.heap.size 28 i0 (.agg #[.string .empty, .string .empty, .bool false]) 40 Try.underlying24 hi hz0 hz1 hz2 rfl vA len (ws.flatMap Wr.cells) (by rfl) hA (some ⟨gC, 0, none⟩) 1 1 [mark] (by rfl) (seq_one hC) (fun e => by cases e) (fun _ => rfl) wr_one (by unfold maxLen; omega) (by omega) hB.size ?_
              intro vB W5 hA' hgr hat
              rw [List.flatMap_singleton] at hA'
              have hB' : Below w1.heap.size w1 W5 := hB.trans ⟨hgr.os, hgr.tape, hgr.output, hgr.size, fun k hk => hgr.block k (Nat.lt_of_lt_of_le hk hB.size) (fun e => by have := (World.ownsRow.lt hA k e.symm).1; omega)⟩
              have hS' := (hgr.block w.heap.size (by have := hB.size; omega) (fun e => by have := (World.ownsRow.lt hA _ e.symm).1; omega)).trans hHeld
              have hC' := (hgr.block gC (Array.getElem?_eq_some_iff.1 hC).1 (fun e => hCA e.symm)).trans hC
              have hCA' : vB.ownBlock ≠ some gC := by rcases hat with e | e; (rw [e]; exact hCA); (rw [e]; intro e2; simp at e2; have := (Array.getElem?_eq_some_iff.1 hC).1; omega)
              have hF' := (hgr.block pF (Array.getElem?_eq_some_iff.1 hF).1 (fun e => hFA e.symm)).trans hF
              have hFA' : vB.ownBlock ≠ some pF := by rcases hat with e | e; (rw [e]; exact hFA); (rw [e]; intro e2; simp at e2; have := (Array.getElem?_eq_some_iff.1 hF).1; omega)
              refine hK.out _ _ hS' (fun hHeld => ?_)
              clear hK K
              try simp only [Act.put, List.setIfInBounds_toArray, List.set_cons_zero, List.set_cons_succ]
              clear hB hA hC hCA hF hFA hS' hgr hat
              have hB := hB'
              have hA := hA'
              have hC := hC'
              have hCA := hCA'
              have hF := hF'
              have hFA := hFA'
              clear hB' hA' hC' hCA' hF' hFA'
              obtain ⟨vA, evA⟩ : ∃ x, x = vB := ⟨_, rfl⟩
              subst evA
              obtain ⟨aD, lD, cD, rfl⟩ := row_form hA
              refine wpAnyH_take (i := 9) (oi := { dst := some 22, op := _, type := _, pos := _, after := _, guard := _ }) (v := ?_) rfl (by kernel_rfl) (by kernel_rfl) (by kernel_rfl) (fun _ _ _ h => h) (Or.inl ⟨by rfl, ?_⟩) (by assumption) ?_
              rotate_left 1
              · intro u s1; have k0 : u.cell? ⟨w.heap.size, 0, none⟩ = some (.int .i64 t) := (by rw [Go.Joins.cell_of_block s1]; rfl); have k1 : u.cell? ⟨w.heap.size, 1, none⟩ = some (.slice ao len cap) := (by rw [Go.Joins.cell_of_block s1]; rfl); go_simp; try with_reducible rfl
              try simp only [Act.put, List.setIfInBounds_toArray, List.set_cons_zero, List.set_cons_succ]
              refine wpAnyH_ready (rs := [11]) (by kernel_rfl) (by simp) ?_
              refine AllReadyH.cons (o := { dst := none, op := _, type := _, pos := _, after := _, guard := _ }) rfl (fun K hK => ?_) ?_
              · skip
                have e0 : W5.cell? ⟨pF, 0, none⟩ = some (.int .i64 0) := by rw [Go.Joins.cell_of_block hF]; rfl
                have e1 : W5.cell? ⟨pF, 1, none⟩ = some (.slice none 0 0) := by rw [Go.Joins.cell_of_block hF]; rfl
                have ef0 := Go.Joins.unfrozen_of_block hF 0
                have ef1 := Go.Joins.unfrozen_of_block hF 1
                have hpl : pF < W5.heap.size := (Array.getElem?_eq_some_iff.1 hF).1
                have FIN : ((W5.setCell ⟨pF, 0, none⟩ (.int .i64 t)).setCell ⟨pF, 1, none⟩ (.slice aD lD cD)).heap[pF]? = some (.cells #[.int .i64 t, .slice aD lD cD] 26 (0, 0)) := blk_set2 hF _ _
                have ROW := World.ownsRow.kept hA (set2 W5 pF (.int .i64 t) (.slice aD lD cD)) (.inr hFA)
                have BLW : Below w1.heap.size w1 ((W5.setCell ⟨pF, 0, none⟩ (.int .i64 t)).setCell ⟨pF, 1, none⟩ (.slice aD lD cD)) := (hB.setCell (p := ⟨pF, 0, none⟩) (by simpa using hpF) _).setCell (p := ⟨pF, 1, none⟩) (by simpa using hpF) _
                have hS' : ((W5.setCell ⟨pF, 0, none⟩ (.int .i64 t)).setCell ⟨pF, 1, none⟩ (.slice aD lD cD)).heap[w.heap.size]? = some (.cells #[.int .i64 t, .slice ao len cap] 26 (0, 0)) := ((set2 W5 pF (.int .i64 t) (.slice aD lD cD)).block w.heap.size (by have := hB.size; omega) (by simp; omega)).trans hHeld
                go_simp
                refine hK.out _ _ hS' (fun hHeld => ?_)
                clear hK K
                try simp only [Act.put, List.setIfInBounds_toArray, List.set_cons_zero, List.set_cons_succ]
                refine wpAnyH_done (by kernel_rfl) ?_ _
                refine NoPanic.normal ?_
                refine hK1 _ _ (Met.intro (hJ1 _ _ ?_))
                (repeat apply Exists.intro)
                refine ⟨?_, rfl⟩
                exact ⟨_, _, _, _, rfl, FIN, ROW, BLW, hpF, hFA⟩
              exact AllReadyH.nil
            exact AllReadyH.nil
          exact AllReadyH.nil
        refine AllReadyH.cons (o := { dst := some 4, op := _, type := _, pos := _, after := _, guard := _ }) rfl (fun K hK => ?_) ?_
        · skip
          go_simp
          have hS' := (blk_alloc' W2 (.cells #[.int .i64 0, .slice none 0 0] 26) w.heap.size (by have := hB.size; omega)).trans hHeld
          have hB' := below_more hB (.cells #[.int .i64 0, .slice none 0 0] 26)
          have hA' := World.ownsRow.alloc hA (.cells #[.int .i64 0, .slice none 0 0] 26)
          have hAl : ∀ j, vA.ownBlock = some j → j ≠ W2.heap.size := fun j hj e => by have := (World.ownsRow.lt hA j hj).2; omega
          have hC' := (blk_alloc' W2 (.cells #[.int .i64 0, .slice none 0 0] 26) gC (Array.getElem?_eq_some_iff.1 hC).1).trans hC
          have hF' := heap_alloc_new W2 (.cells #[.int .i64 0, .slice none 0 0] 26)
          refine hK.out _ _ hS' (fun hHeld => ?_)
          clear hK K
          try simp only [Act.put, List.setIfInBounds_toArray, List.set_cons_zero, List.set_cons_succ]
          have hFA : vA.ownBlock ≠ some W2.heap.size := fun e => hAl _ e rfl
          have hpF : w1.heap.size ≤ W2.heap.size := hB.size
          obtain ⟨pF, epF⟩ : ∃ x, x = W2.heap.size := ⟨_, rfl⟩
          rw [← epF] at hF' hpF ⊢ hFA
          have hCF : gC ≠ pF := by rw [epF]; have := (Array.getElem?_eq_some_iff.1 hC).1; omega
          clear epF
          clear hB hA hC hS'
          generalize W2.alloc (.cells #[.int .i64 0, .slice none 0 0] 26) = W3 at hB' hA' hC' hF' hHeld ⊢
          have hB := hB'
          have hA := hA'
          have hC := hC'
          have hF := hF'
          clear hB' hA' hC' hF'
          refine wpAnyH_ready (rs := [5]) (by kernel_rfl) (by simp) ?_
          refine AllReadyH.cons (o := { dst := some 18, op := _, type := _, pos := _, after := _, guard := _ }) rfl (fun K hK => ?_) ?_
          · skip
            refine step_append_seq (by rfl) _ _ _ (by rfl) w1.heap.size 28 i0 (.agg #[.string .empty, .string .empty, .bool false]) 40 Try.underlying24 hi hz0 hz1 hz2 rfl vA 0 [] (by rfl) hA ao len cap ws (by rfl) ((HS.out.keep B1).keep hB) (fun e => by rcases Nat.eq_zero_or_pos len with h0 | h0; exact ⟨h0, hcap0 e⟩; obtain ⟨b, off, e2, _⟩ := HS.out.2.2.2 h0; rw [e] at e2; cases e2) (fun _ => rfl) wr_one (by unfold maxLen; omega) (by omega) hB.size ?_
            intro vB W4 hA' hgr hat
            rw [Nat.zero_add, List.nil_append] at hA'
            have hB' : Below w1.heap.size w1 W4 := hB.trans ⟨hgr.os, hgr.tape, hgr.output, hgr.size, fun k hk => hgr.block k (Nat.lt_of_lt_of_le hk hB.size) (fun e => by have := (World.ownsRow.lt hA k e.symm).1; omega)⟩
            have hS' := (hgr.block w.heap.size (by have := hB.size; omega) (fun e => by have := (World.ownsRow.lt hA _ e.symm).1; omega)).trans hHeld
            have hC' := (hgr.block gC (Array.getElem?_eq_some_iff.1 hC).1 (fun e => hCA e.symm)).trans hC
            have hCA' : vB.ownBlock ≠ some gC := by rcases hat with e | e; (rw [e]; exact hCA); (rw [e]; intro e2; simp at e2; have := (Array.getElem?_eq_some_iff.1 hC).1; omega)
            have hF' := (hgr.block pF (Array.getElem?_eq_some_iff.1 hF).1 (fun e => hFA e.symm)).trans hF
            have hFA' : vB.ownBlock ≠ some pF := by rcases hat with e | e; (rw [e]; exact hFA); (rw [e]; intro e2; simp at e2; have := (Array.getElem?_eq_some_iff.1 hF).1; omega)
            refine hK.out _ _ hS' (fun hHeld => ?_)
            clear hK K
            try simp only [Act.put, List.setIfInBounds_toArray, List.set_cons_zero, List.set_cons_succ]
            clear hB hA hC hCA hF hFA hS' hgr hat
            have hB := hB'
            have hA := hA'
            have hC := hC'
            have hCA := hCA'
            have hF := hF'
            have hFA := hFA'
            clear hB' hA' hC' hCA' hF' hFA'
            obtain ⟨vA, evA⟩ : ∃ x, x = vB := ⟨_, rfl⟩
            subst evA
            refine wpAnyH_ready (rs := [8]) (by kernel_rfl) (by simp) ?_
            refine AllReadyH.cons (o := { dst := some 21, op := _, type := _, pos := _, after := _, guard := _ }) rfl (fun K hK => ?_) ?_
            · skip
              refine step_append_seq (by rfl) _ _ _ (by rfl) w1.heap.size 28 i0 (.agg #[.string .empty, .string .empty, .bool false]) 40 Try.underlying24 hi hz0 hz1 hz2 rfl vA len (ws.flatMap Wr.cells) (by rfl) hA (some ⟨gC, 0, none⟩) 1 1 [mark] (by rfl) (seq_one hC) (fun e => by cases e) (fun _ => rfl) wr_one (by unfold maxLen; omega) (by omega) hB.size ?_
              intro vB W5 hA' hgr hat
              rw [List.flatMap_singleton] at hA'
              have hB' : Below w1.heap.size w1 W5 := hB.trans ⟨hgr.os, hgr.tape, hgr.output, hgr.size, fun k hk => hgr.block k (Nat.lt_of_lt_of_le hk hB.size) (fun e => by have := (World.ownsRow.lt hA k e.symm).1; omega)⟩
              have hS' := (hgr.block w.heap.size (by have := hB.size; omega) (fun e => by have := (World.ownsRow.lt hA _ e.symm).1; omega)).trans hHeld
              have hC' := (hgr.block gC (Array.getElem?_eq_some_iff.1 hC).1 (fun e => hCA e.symm)).trans hC
              have hCA' : vB.ownBlock ≠ some gC := by rcases hat with e | e; (rw [e]; exact hCA); (rw [e]; intro e2; simp at e2; have := (Array.getElem?_eq_some_iff.1 hC).1; omega)
              have hF' := (hgr.block pF (Array.getElem?_eq_some_iff.1 hF).1 (fun e => hFA e.symm)).trans hF
              have hFA' : vB.ownBlock ≠ some pF := by rcases hat with e | e; (rw [e]; exact hFA); (rw [e]; intro e2; simp at e2; have := (Array.getElem?_eq_some_iff.1 hF).1; omega)
              refine hK.out _ _ hS' (fun hHeld => ?_)
              clear hK K
              try simp only [Act.put, List.setIfInBounds_toArray, List.set_cons_zero, List.set_cons_succ]
              clear hB hA hC hCA hF hFA hS' hgr hat
              have hB := hB'
              have hA := hA'
              have hC := hC'
              have hCA := hCA'
              have hF := hF'
              have hFA := hFA'
              clear hB' hA' hC' hCA' hF' hFA'
              obtain ⟨vA, evA⟩ : ∃ x, x = vB := ⟨_, rfl⟩
              subst evA
              obtain ⟨aD, lD, cD, rfl⟩ := row_form hA
              refine wpAnyH_take (i := 9) (oi := { dst := some 22, op := _, type := _, pos := _, after := _, guard := _ }) (v := ?_) rfl (by kernel_rfl) (by kernel_rfl) (by kernel_rfl) (fun _ _ _ h => h) (Or.inl ⟨by rfl, ?_⟩) (by assumption) ?_
              rotate_left 1
              · intro u s1; have k0 : u.cell? ⟨w.heap.size, 0, none⟩ = some (.int .i64 t) := (by rw [Go.Joins.cell_of_block s1]; rfl); have k1 : u.cell? ⟨w.heap.size, 1, none⟩ = some (.slice ao len cap) := (by rw [Go.Joins.cell_of_block s1]; rfl); go_simp; try with_reducible rfl
              try simp only [Act.put, List.setIfInBounds_toArray, List.set_cons_zero, List.set_cons_succ]
              refine wpAnyH_ready (rs := [11]) (by kernel_rfl) (by simp) ?_
              refine AllReadyH.cons (o := { dst := none, op := _, type := _, pos := _, after := _, guard := _ }) rfl (fun K hK => ?_) ?_
              · skip
                have e0 : W5.cell? ⟨pF, 0, none⟩ = some (.int .i64 0) := by rw [Go.Joins.cell_of_block hF]; rfl
                have e1 : W5.cell? ⟨pF, 1, none⟩ = some (.slice none 0 0) := by rw [Go.Joins.cell_of_block hF]; rfl
                have ef0 := Go.Joins.unfrozen_of_block hF 0
                have ef1 := Go.Joins.unfrozen_of_block hF 1
                have hpl : pF < W5.heap.size := (Array.getElem?_eq_some_iff.1 hF).1
                have FIN : ((W5.setCell ⟨pF, 0, none⟩ (.int .i64 t)).setCell ⟨pF, 1, none⟩ (.slice aD lD cD)).heap[pF]? = some (.cells #[.int .i64 t, .slice aD lD cD] 26 (0, 0)) := blk_set2 hF _ _
                have ROW := World.ownsRow.kept hA (set2 W5 pF (.int .i64 t) (.slice aD lD cD)) (.inr hFA)
                have BLW : Below w1.heap.size w1 ((W5.setCell ⟨pF, 0, none⟩ (.int .i64 t)).setCell ⟨pF, 1, none⟩ (.slice aD lD cD)) := (hB.setCell (p := ⟨pF, 0, none⟩) (by simpa using hpF) _).setCell (p := ⟨pF, 1, none⟩) (by simpa using hpF) _
                have hS' : ((W5.setCell ⟨pF, 0, none⟩ (.int .i64 t)).setCell ⟨pF, 1, none⟩ (.slice aD lD cD)).heap[w.heap.size]? = some (.cells #[.int .i64 t, .slice ao len cap] 26 (0, 0)) := ((set2 W5 pF (.int .i64 t) (.slice aD lD cD)).block w.heap.size (by have := hB.size; omega) (by simp; omega)).trans hHeld
                go_simp
                refine hK.out _ _ hS' (fun hHeld => ?_)
                clear hK K
                try simp only [Act.put, List.setIfInBounds_toArray, List.set_cons_zero, List.set_cons_succ]
                refine wpAnyH_done (by kernel_rfl) ?_ _
                refine NoPanic.normal ?_
                refine hK1 _ _ (Met.intro (hJ1 _ _ ?_))
                (repeat apply Exists.intro)
                refine ⟨?_, rfl⟩
                exact ⟨_, _, _, _, rfl, FIN, ROW, BLW, hpF, hFA⟩
              exact AllReadyH.nil
            exact AllReadyH.nil
          exact AllReadyH.nil
        exact AllReadyH.nil
      refine AllReadyH.cons (o := { dst := some 4, op := _, type := _, pos := _, after := _, guard := _ }) rfl (fun K hK => ?_) ?_
      · skip
        go_simp
        have hS' := (blk_alloc' W1 (.cells #[.int .i64 0, .slice none 0 0] 26) w.heap.size (by have := hB.size; omega)).trans hHeld
        have hB' := below_more hB (.cells #[.int .i64 0, .slice none 0 0] 26)
        have hA' := World.ownsRow.alloc hA (.cells #[.int .i64 0, .slice none 0 0] 26)
        have hAl : ∀ j, vA.ownBlock = some j → j ≠ W1.heap.size := fun j hj e => by have := (World.ownsRow.lt hA j hj).2; omega
        have hF' := heap_alloc_new W1 (.cells #[.int .i64 0, .slice none 0 0] 26)
        refine hK.out _ _ hS' (fun hHeld => ?_)
        clear hK K
        try simp only [Act.put, List.setIfInBounds_toArray, List.set_cons_zero, List.set_cons_succ]
        have hFA : vA.ownBlock ≠ some W1.heap.size := fun e => hAl _ e rfl
        have hpF : w1.heap.size ≤ W1.heap.size := hB.size
        obtain ⟨pF, epF⟩ : ∃ x, x = W1.heap.size := ⟨_, rfl⟩
        rw [← epF] at hF' hpF ⊢ hFA
        clear epF
        clear hB hA hS'
        generalize W1.alloc (.cells #[.int .i64 0, .slice none 0 0] 26) = W2 at hB' hA' hF' hHeld ⊢
        have hB := hB'
        have hA := hA'
        have hF := hF'
        clear hB' hA' hF'
        refine wpAnyH_ready (rs := [5, 7]) (by kernel_rfl) (by simp) ?_
        refine AllReadyH.cons (o := { dst := some 18, op := _, type := _, pos := _, after := _, guard := _ }) rfl (fun K hK => ?_) ?_
        · skip
          refine step_append_seq (by rfl) _ _ _ (by rfl) w1.heap.size 28 i0 (.agg #[.string .empty, .string .empty, .bool false]) 40 Try.underlying24 hi hz0 hz1 hz2 rfl vA 0 [] (by rfl) hA ao len cap ws (by rfl) ((HS.out.keep B1).keep hB) (fun e => by rcases Nat.eq_zero_or_pos len with h0 | h0; exact ⟨h0, hcap0 e⟩; obtain ⟨b, off, e2, _⟩ := HS.out.2.2.2 h0; rw [e] at e2; cases e2) (fun _ => rfl) wr_one (by unfold maxLen; omega) (by omega) hB.size ?_
          intro vB W3 hA' hgr hat
          rw [Nat.zero_add, List.nil_append] at hA'
          have hB' : Below w1.heap.size w1 W3 := hB.trans ⟨hgr.os, hgr.tape, hgr.output, hgr.size, fun k hk => hgr.block k (Nat.lt_of_lt_of_le hk hB.size) (fun e => by have := (World.ownsRow.lt hA k e.symm).1; omega)⟩
          have hS' := (hgr.block w.heap.size (by have := hB.size; omega) (fun e => by have := (World.ownsRow.lt hA _ e.symm).1; omega)).trans hHeld
          have hF' := (hgr.block pF (Array.getElem?_eq_some_iff.1 hF).1 (fun e => hFA e.symm)).trans hF
          have hFA' : vB.ownBlock ≠ some pF := by rcases hat with e | e; (rw [e]; exact hFA); (rw [e]; intro e2; simp at e2; have := (Array.getElem?_eq_some_iff.1 hF).1; omega)
          refine hK.out _ _ hS' (fun hHeld => ?_)
          clear hK K
          try simp only [Act.put, List.setIfInBounds_toArray, List.set_cons_zero, List.set_cons_succ]
          clear hB hA hF hFA hS' hgr hat
          have hB := hB'
          have hA := hA'
          have hF := hF'
          have hFA := hFA'
          clear hB' hA' hF' hFA'
          obtain ⟨vA, evA⟩ : ∃ x, x = vB := ⟨_, rfl⟩
          subst evA
          refine wpAnyH_ready (rs := [7]) (by kernel_rfl) (by simp) ?_
          refine AllReadyH.cons (o := { dst := some 20, op := _, type := _, pos := _, after := _, guard := _ }) rfl (fun K hK => ?_) ?_
          · skip
            go_simp
            have hS' := (blk_alloc' W3 (.cells #[.string ⟨#[109, 97, 114, 107]⟩, .string ⟨#[]⟩, .bool false] 28) w.heap.size (by have := hB.size; omega)).trans hHeld
            have hB' := below_more hB (.cells #[.string ⟨#[109, 97, 114, 107]⟩, .string ⟨#[]⟩, .bool false] 28)
            have hA' := World.ownsRow.alloc hA (.cells #[.string ⟨#[109, 97, 114, 107]⟩, .string ⟨#[]⟩, .bool false] 28)
            have hAl : ∀ j, vA.ownBlock = some j → j ≠ W3.heap.size := fun j hj e => by have := (World.ownsRow.lt hA j hj).2; omega
            have hF' := (blk_alloc' W3 (.cells #[.string ⟨#[109, 97, 114, 107]⟩, .string ⟨#[]⟩, .bool false] 28) pF (Array.getElem?_eq_some_iff.1 hF).1).trans hF
            have hC' := heap_alloc_new W3 (.cells #[.string ⟨#[109, 97, 114, 107]⟩, .string ⟨#[]⟩, .bool false] 28)
            refine hK.out _ _ hS' (fun hHeld => ?_)
            clear hK K
            try simp only [Act.put, List.setIfInBounds_toArray, List.set_cons_zero, List.set_cons_succ]
            have hCA : vA.ownBlock ≠ some W3.heap.size := fun e => hAl _ e rfl
            have hgC : w1.heap.size ≤ W3.heap.size := hB.size
            obtain ⟨gC, egC⟩ : ∃ x, x = W3.heap.size := ⟨_, rfl⟩
            rw [← egC] at hC' hgC ⊢ hCA
            have hCF : gC ≠ pF := by rw [egC]; have := (Array.getElem?_eq_some_iff.1 hF).1; omega
            clear egC
            clear hB hA hF hS'
            generalize W3.alloc (.cells #[.string ⟨#[109, 97, 114, 107]⟩, .string ⟨#[]⟩, .bool false] 28) = W4 at hB' hA' hC' hF' hHeld ⊢
            have hB := hB'
            have hA := hA'
            have hC := hC'
            have hF := hF'
            clear hB' hA' hC' hF'
            refine wpAnyH_ready (rs := [8]) (by kernel_rfl) (by simp) ?_
            refine AllReadyH.cons (o := { dst := some 21, op := _, type := _, pos := _, after := _, guard := _ }) rfl (fun K hK => ?_) ?_
            · skip
              refine step_append_seq (by rfl) _ _ _ (by rfl) w1.heap.size 28 i0 (.agg #[.string .empty, .string .empty, .bool false]) 40 Try.underlying24 hi hz0 hz1 hz2 rfl vA len (ws.flatMap Wr.cells) (by rfl) hA (some ⟨gC, 0, none⟩) 1 1 [mark] (by rfl) (seq_one hC) (fun e => by cases e) (fun _ => rfl) wr_one (by unfold maxLen; omega) (by omega) hB.size ?_
              intro vB W5 hA' hgr hat
              rw [List.flatMap_singleton] at hA'
              have hB' : Below w1.heap.size w1 W5 := hB.trans ⟨hgr.os, hgr.tape, hgr.output, hgr.size, fun k hk => hgr.block k (Nat.lt_of_lt_of_le hk hB.size) (fun e => by have := (World.ownsRow.lt hA k e.symm).1; omega)⟩
              have hS' := (hgr.block w.heap.size (by have := hB.size; omega) (fun e => by have := (World.ownsRow.lt hA _ e.symm).1; omega)).trans hHeld
              have hC' := (hgr.block gC (Array.getElem?_eq_some_iff.1 hC).1 (fun e => hCA e.symm)).trans hC
              have hCA' : vB.ownBlock ≠ some gC := by rcases hat with e | e; (rw [e]; exact hCA); (rw [e]; intro e2; simp at e2; have := (Array.getElem?_eq_some_iff.1 hC).1; omega)
              have hF' := (hgr.block pF (Array.getElem?_eq_some_iff.1 hF).1 (fun e => hFA e.symm)).trans hF
              have hFA' : vB.ownBlock ≠ some pF := by rcases hat with e | e; (rw [e]; exact hFA); (rw [e]; intro e2; simp at e2; have := (Array.getElem?_eq_some_iff.1 hF).1; omega)
              refine hK.out _ _ hS' (fun hHeld => ?_)
              clear hK K
              try simp only [Act.put, List.setIfInBounds_toArray, List.set_cons_zero, List.set_cons_succ]
              clear hB hA hC hCA hF hFA hS' hgr hat
              have hB := hB'
              have hA := hA'
              have hC := hC'
              have hCA := hCA'
              have hF := hF'
              have hFA := hFA'
              clear hB' hA' hC' hCA' hF' hFA'
              obtain ⟨vA, evA⟩ : ∃ x, x = vB := ⟨_, rfl⟩
              subst evA
              obtain ⟨aD, lD, cD, rfl⟩ := row_form hA
              refine wpAnyH_take (i := 9) (oi := { dst := some 22, op := _, type := _, pos := _, after := _, guard := _ }) (v := ?_) rfl (by kernel_rfl) (by kernel_rfl) (by kernel_rfl) (fun _ _ _ h => h) (Or.inl ⟨by rfl, ?_⟩) (by assumption) ?_
              rotate_left 1
              · intro u s1; have k0 : u.cell? ⟨w.heap.size, 0, none⟩ = some (.int .i64 t) := (by rw [Go.Joins.cell_of_block s1]; rfl); have k1 : u.cell? ⟨w.heap.size, 1, none⟩ = some (.slice ao len cap) := (by rw [Go.Joins.cell_of_block s1]; rfl); go_simp; try with_reducible rfl
              try simp only [Act.put, List.setIfInBounds_toArray, List.set_cons_zero, List.set_cons_succ]
              refine wpAnyH_ready (rs := [11]) (by kernel_rfl) (by simp) ?_
              refine AllReadyH.cons (o := { dst := none, op := _, type := _, pos := _, after := _, guard := _ }) rfl (fun K hK => ?_) ?_
              · skip
                have e0 : W5.cell? ⟨pF, 0, none⟩ = some (.int .i64 0) := by rw [Go.Joins.cell_of_block hF]; rfl
                have e1 : W5.cell? ⟨pF, 1, none⟩ = some (.slice none 0 0) := by rw [Go.Joins.cell_of_block hF]; rfl
                have ef0 := Go.Joins.unfrozen_of_block hF 0
                have ef1 := Go.Joins.unfrozen_of_block hF 1
                have hpl : pF < W5.heap.size := (Array.getElem?_eq_some_iff.1 hF).1
                have FIN : ((W5.setCell ⟨pF, 0, none⟩ (.int .i64 t)).setCell ⟨pF, 1, none⟩ (.slice aD lD cD)).heap[pF]? = some (.cells #[.int .i64 t, .slice aD lD cD] 26 (0, 0)) := blk_set2 hF _ _
                have ROW := World.ownsRow.kept hA (set2 W5 pF (.int .i64 t) (.slice aD lD cD)) (.inr hFA)
                have BLW : Below w1.heap.size w1 ((W5.setCell ⟨pF, 0, none⟩ (.int .i64 t)).setCell ⟨pF, 1, none⟩ (.slice aD lD cD)) := (hB.setCell (p := ⟨pF, 0, none⟩) (by simpa using hpF) _).setCell (p := ⟨pF, 1, none⟩) (by simpa using hpF) _
                have hS' : ((W5.setCell ⟨pF, 0, none⟩ (.int .i64 t)).setCell ⟨pF, 1, none⟩ (.slice aD lD cD)).heap[w.heap.size]? = some (.cells #[.int .i64 t, .slice ao len cap] 26 (0, 0)) := ((set2 W5 pF (.int .i64 t) (.slice aD lD cD)).block w.heap.size (by have := hB.size; omega) (by simp; omega)).trans hHeld
                go_simp
                refine hK.out _ _ hS' (fun hHeld => ?_)
                clear hK K
                try simp only [Act.put, List.setIfInBounds_toArray, List.set_cons_zero, List.set_cons_succ]
                refine wpAnyH_done (by kernel_rfl) ?_ _
                refine NoPanic.normal ?_
                refine hK1 _ _ (Met.intro (hJ1 _ _ ?_))
                (repeat apply Exists.intro)
                refine ⟨?_, rfl⟩
                exact ⟨_, _, _, _, rfl, FIN, ROW, BLW, hpF, hFA⟩
              exact AllReadyH.nil
            exact AllReadyH.nil
          exact AllReadyH.nil
        refine AllReadyH.cons (o := { dst := some 20, op := _, type := _, pos := _, after := _, guard := _ }) rfl (fun K hK => ?_) ?_
        · skip
          go_simp
          have hS' := (blk_alloc' W2 (.cells #[.string ⟨#[109, 97, 114, 107]⟩, .string ⟨#[]⟩, .bool false] 28) w.heap.size (by have := hB.size; omega)).trans hHeld
          have hB' := below_more hB (.cells #[.string ⟨#[109, 97, 114, 107]⟩, .string ⟨#[]⟩, .bool false] 28)
          have hA' := World.ownsRow.alloc hA (.cells #[.string ⟨#[109, 97, 114, 107]⟩, .string ⟨#[]⟩, .bool false] 28)
          have hAl : ∀ j, vA.ownBlock = some j → j ≠ W2.heap.size := fun j hj e => by have := (World.ownsRow.lt hA j hj).2; omega
          have hF' := (blk_alloc' W2 (.cells #[.string ⟨#[109, 97, 114, 107]⟩, .string ⟨#[]⟩, .bool false] 28) pF (Array.getElem?_eq_some_iff.1 hF).1).trans hF
          have hC' := heap_alloc_new W2 (.cells #[.string ⟨#[109, 97, 114, 107]⟩, .string ⟨#[]⟩, .bool false] 28)
          refine hK.out _ _ hS' (fun hHeld => ?_)
          clear hK K
          try simp only [Act.put, List.setIfInBounds_toArray, List.set_cons_zero, List.set_cons_succ]
          have hCA : vA.ownBlock ≠ some W2.heap.size := fun e => hAl _ e rfl
          have hgC : w1.heap.size ≤ W2.heap.size := hB.size
          obtain ⟨gC, egC⟩ : ∃ x, x = W2.heap.size := ⟨_, rfl⟩
          rw [← egC] at hC' hgC ⊢ hCA
          have hCF : gC ≠ pF := by rw [egC]; have := (Array.getElem?_eq_some_iff.1 hF).1; omega
          clear egC
          clear hB hA hF hS'
          generalize W2.alloc (.cells #[.string ⟨#[109, 97, 114, 107]⟩, .string ⟨#[]⟩, .bool false] 28) = W3 at hB' hA' hC' hF' hHeld ⊢
          have hB := hB'
          have hA := hA'
          have hC := hC'
          have hF := hF'
          clear hB' hA' hC' hF'
          refine wpAnyH_ready (rs := [5]) (by kernel_rfl) (by simp) ?_
          refine AllReadyH.cons (o := { dst := some 18, op := _, type := _, pos := _, after := _, guard := _ }) rfl (fun K hK => ?_) ?_
          · skip
            refine step_append_seq (by rfl) _ _ _ (by rfl) w1.heap.size 28 i0 (.agg #[.string .empty, .string .empty, .bool false]) 40 Try.underlying24 hi hz0 hz1 hz2 rfl vA 0 [] (by rfl) hA ao len cap ws (by rfl) ((HS.out.keep B1).keep hB) (fun e => by rcases Nat.eq_zero_or_pos len with h0 | h0; exact ⟨h0, hcap0 e⟩; obtain ⟨b, off, e2, _⟩ := HS.out.2.2.2 h0; rw [e] at e2; cases e2) (fun _ => rfl) wr_one (by unfold maxLen; omega) (by omega) hB.size ?_
            intro vB W4 hA' hgr hat
            rw [Nat.zero_add, List.nil_append] at hA'
            have hB' : Below w1.heap.size w1 W4 := hB.trans ⟨hgr.os, hgr.tape, hgr.output, hgr.size, fun k hk => hgr.block k (Nat.lt_of_lt_of_le hk hB.size) (fun e => by have := (World.ownsRow.lt hA k e.symm).1; omega)⟩
            have hS' := (hgr.block w.heap.size (by have := hB.size; omega) (fun e => by have := (World.ownsRow.lt hA _ e.symm).1; omega)).trans hHeld
            have hC' := (hgr.block gC (Array.getElem?_eq_some_iff.1 hC).1 (fun e => hCA e.symm)).trans hC
            have hCA' : vB.ownBlock ≠ some gC := by rcases hat with e | e; (rw [e]; exact hCA); (rw [e]; intro e2; simp at e2; have := (Array.getElem?_eq_some_iff.1 hC).1; omega)
            have hF' := (hgr.block pF (Array.getElem?_eq_some_iff.1 hF).1 (fun e => hFA e.symm)).trans hF
            have hFA' : vB.ownBlock ≠ some pF := by rcases hat with e | e; (rw [e]; exact hFA); (rw [e]; intro e2; simp at e2; have := (Array.getElem?_eq_some_iff.1 hF).1; omega)
            refine hK.out _ _ hS' (fun hHeld => ?_)
            clear hK K
            try simp only [Act.put, List.setIfInBounds_toArray, List.set_cons_zero, List.set_cons_succ]
            clear hB hA hC hCA hF hFA hS' hgr hat
            have hB := hB'
            have hA := hA'
            have hC := hC'
            have hCA := hCA'
            have hF := hF'
            have hFA := hFA'
            clear hB' hA' hC' hCA' hF' hFA'
            obtain ⟨vA, evA⟩ : ∃ x, x = vB := ⟨_, rfl⟩
            subst evA
            refine wpAnyH_ready (rs := [8]) (by kernel_rfl) (by simp) ?_
            refine AllReadyH.cons (o := { dst := some 21, op := _, type := _, pos := _, after := _, guard := _ }) rfl (fun K hK => ?_) ?_
            · skip
              refine step_append_seq (by rfl) _ _ _ (by rfl) w1.heap.size 28 i0 (.agg #[.string .empty, .string .empty, .bool false]) 40 Try.underlying24 hi hz0 hz1 hz2 rfl vA len (ws.flatMap Wr.cells) (by rfl) hA (some ⟨gC, 0, none⟩) 1 1 [mark] (by rfl) (seq_one hC) (fun e => by cases e) (fun _ => rfl) wr_one (by unfold maxLen; omega) (by omega) hB.size ?_
              intro vB W5 hA' hgr hat
              rw [List.flatMap_singleton] at hA'
              have hB' : Below w1.heap.size w1 W5 := hB.trans ⟨hgr.os, hgr.tape, hgr.output, hgr.size, fun k hk => hgr.block k (Nat.lt_of_lt_of_le hk hB.size) (fun e => by have := (World.ownsRow.lt hA k e.symm).1; omega)⟩
              have hS' := (hgr.block w.heap.size (by have := hB.size; omega) (fun e => by have := (World.ownsRow.lt hA _ e.symm).1; omega)).trans hHeld
              have hC' := (hgr.block gC (Array.getElem?_eq_some_iff.1 hC).1 (fun e => hCA e.symm)).trans hC
              have hCA' : vB.ownBlock ≠ some gC := by rcases hat with e | e; (rw [e]; exact hCA); (rw [e]; intro e2; simp at e2; have := (Array.getElem?_eq_some_iff.1 hC).1; omega)
              have hF' := (hgr.block pF (Array.getElem?_eq_some_iff.1 hF).1 (fun e => hFA e.symm)).trans hF
              have hFA' : vB.ownBlock ≠ some pF := by rcases hat with e | e; (rw [e]; exact hFA); (rw [e]; intro e2; simp at e2; have := (Array.getElem?_eq_some_iff.1 hF).1; omega)
              refine hK.out _ _ hS' (fun hHeld => ?_)
              clear hK K
              try simp only [Act.put, List.setIfInBounds_toArray, List.set_cons_zero, List.set_cons_succ]
              clear hB hA hC hCA hF hFA hS' hgr hat
              have hB := hB'
              have hA := hA'
              have hC := hC'
              have hCA := hCA'
              have hF := hF'
              have hFA := hFA'
              clear hB' hA' hC' hCA' hF' hFA'
              obtain ⟨vA, evA⟩ : ∃ x, x = vB := ⟨_, rfl⟩
              subst evA
              obtain ⟨aD, lD, cD, rfl⟩ := row_form hA
              refine wpAnyH_take (i := 9) (oi := { dst := some 22, op := _, type := _, pos := _, after := _, guard := _ }) (v := ?_) rfl (by kernel_rfl) (by kernel_rfl) (by kernel_rfl) (fun _ _ _ h => h) (Or.inl ⟨by rfl, ?_⟩) (by assumption) ?_
              rotate_left 1
              · intro u s1; have k0 : u.cell? ⟨w.heap.size, 0, none⟩ = some (.int .i64 t) := (by rw [Go.Joins.cell_of_block s1]; rfl); have k1 : u.cell? ⟨w.heap.size, 1, none⟩ = some (.slice ao len cap) := (by rw [Go.Joins.cell_of_block s1]; rfl); go_simp; try with_reducible rfl
              try simp only [Act.put, List.setIfInBounds_toArray, List.set_cons_zero, List.set_cons_succ]
              refine wpAnyH_ready (rs := [11]) (by kernel_rfl) (by simp) ?_
              refine AllReadyH.cons (o := { dst := none, op := _, type := _, pos := _, after := _, guard := _ }) rfl (fun K hK => ?_) ?_
              · skip
                have e0 : W5.cell? ⟨pF, 0, none⟩ = some (.int .i64 0) := by rw [Go.Joins.cell_of_block hF]; rfl
                have e1 : W5.cell? ⟨pF, 1, none⟩ = some (.slice none 0 0) := by rw [Go.Joins.cell_of_block hF]; rfl
                have ef0 := Go.Joins.unfrozen_of_block hF 0
                have ef1 := Go.Joins.unfrozen_of_block hF 1
                have hpl : pF < W5.heap.size := (Array.getElem?_eq_some_iff.1 hF).1
                have FIN : ((W5.setCell ⟨pF, 0, none⟩ (.int .i64 t)).setCell ⟨pF, 1, none⟩ (.slice aD lD cD)).heap[pF]? = some (.cells #[.int .i64 t, .slice aD lD cD] 26 (0, 0)) := blk_set2 hF _ _
                have ROW := World.ownsRow.kept hA (set2 W5 pF (.int .i64 t) (.slice aD lD cD)) (.inr hFA)
                have BLW : Below w1.heap.size w1 ((W5.setCell ⟨pF, 0, none⟩ (.int .i64 t)).setCell ⟨pF, 1, none⟩ (.slice aD lD cD)) := (hB.setCell (p := ⟨pF, 0, none⟩) (by simpa using hpF) _).setCell (p := ⟨pF, 1, none⟩) (by simpa using hpF) _
                have hS' : ((W5.setCell ⟨pF, 0, none⟩ (.int .i64 t)).setCell ⟨pF, 1, none⟩ (.slice aD lD cD)).heap[w.heap.size]? = some (.cells #[.int .i64 t, .slice ao len cap] 26 (0, 0)) := ((set2 W5 pF (.int .i64 t) (.slice aD lD cD)).block w.heap.size (by have := hB.size; omega) (by simp; omega)).trans hHeld
                go_simp
                refine hK.out _ _ hS' (fun hHeld => ?_)
                clear hK K
                try simp only [Act.put, List.setIfInBounds_toArray, List.set_cons_zero, List.set_cons_succ]
                refine wpAnyH_done (by kernel_rfl) ?_ _
                refine NoPanic.normal ?_
                refine hK1 _ _ (Met.intro (hJ1 _ _ ?_))
                (repeat apply Exists.intro)
                refine ⟨?_, rfl⟩
                exact ⟨_, _, _, _, rfl, FIN, ROW, BLW, hpF, hFA⟩
              exact AllReadyH.nil
            exact AllReadyH.nil
          exact AllReadyH.nil
        exact AllReadyH.nil
      exact AllReadyH.nil
    refine AllReadyH.cons (o := { dst := some 20, op := _, type := _, pos := _, after := _, guard := _ }) rfl (fun K hK => ?_) ?_
    · skip
      go_simp
      have hS' := (blk_alloc' W0 (.cells #[.string ⟨#[109, 97, 114, 107]⟩, .string ⟨#[]⟩, .bool false] 28) w.heap.size (by have := hB.size; omega)).trans hHeld
      have hB' := below_more hB (.cells #[.string ⟨#[109, 97, 114, 107]⟩, .string ⟨#[]⟩, .bool false] 28)
      have hC' := heap_alloc_new W0 (.cells #[.string ⟨#[109, 97, 114, 107]⟩, .string ⟨#[]⟩, .bool false] 28)
      refine hK.out _ _ hS' (fun hHeld => ?_)
      clear hK K
      try simp only [Act.put, List.setIfInBounds_toArray, List.set_cons_zero, List.set_cons_succ]
      have hgC : w1.heap.size ≤ W0.heap.size := hB.size
      obtain ⟨gC, egC⟩ : ∃ x, x = W0.heap.size := ⟨_, rfl⟩
      rw [← egC] at hC' hgC ⊢
      clear egC
      clear hB hS'
      generalize W0.alloc (.cells #[.string ⟨#[109, 97, 114, 107]⟩, .string ⟨#[]⟩, .bool false] 28) = W1 at hB' hC' hHeld ⊢
      have hB := hB'
      have hC := hC'
      clear hB' hC'
      refine wpAnyH_ready (rs := [2, 10]) (by kernel_rfl) (by simp) ?_
      refine AllReadyH.cons (o := { dst := some 15, op := _, type := _, pos := _, after := _, guard := _ }) rfl (fun K hK => ?_) ?_
      · skip
        go_simp
        have hS' := (blk_alloc' W1 (.cells #[] 28) w.heap.size (by have := hB.size; omega)).trans hHeld
        have hB' := below_more hB (.cells #[] 28)
        have hC' := (blk_alloc' W1 (.cells #[] 28) gC (Array.getElem?_eq_some_iff.1 hC).1).trans hC
        have hA' := empty_row W1 w1.heap.size hB.size
        refine hK.out _ _ hS' (fun hHeld => ?_)
        clear hK K
        try simp only [Act.put, List.setIfInBounds_toArray, List.set_cons_zero, List.set_cons_succ]
        have vA_ex : ∃ x, x = Value.slice (some ⟨W1.heap.size, 0, none⟩) 0 0 := ⟨_, rfl⟩
        obtain ⟨vA, evA⟩ := vA_ex
        rw [← evA] at hA' ⊢
        have hCA : vA.ownBlock ≠ some gC := by rw [evA]; intro e; simp [Value.ownBlock] at e; have := (Array.getElem?_eq_some_iff.1 hC).1; omega
        clear evA
        clear hB hC hS'
        generalize W1.alloc (.cells #[] 28) = W2 at hB' hA' hC' hHeld ⊢
        have hB := hB'
        have hA := hA'
        have hC := hC'
        clear hB' hA' hC'
        refine wpAnyH_ready (rs := [5, 10]) (by kernel_rfl) (by simp) ?_
        refine AllReadyH.cons (o := { dst := some 18, op := _, type := _, pos := _, after := _, guard := _ }) rfl (fun K hK => ?_) ?_
        · skip
          refine step_append_seq (by rfl) _ _ _ (by rfl) w1.heap.size 28 i0 (.agg #[.string .empty, .string .empty, .bool false]) 40 Try.underlying24 hi hz0 hz1 hz2 rfl vA 0 [] (by rfl) hA ao len cap ws (by rfl) ((HS.out.keep B1).keep hB) (fun e => by rcases Nat.eq_zero_or_pos len with h0 | h0; exact ⟨h0, hcap0 e⟩; obtain ⟨b, off, e2, _⟩ := HS.out.2.2.2 h0; rw [e] at e2; cases e2) (fun _ => rfl) wr_one (by unfold maxLen; omega) (by omega) hB.size ?_
          intro vB W3 hA' hgr hat
          rw [Nat.zero_add, List.nil_append] at hA'
          have hB' : Below w1.heap.size w1 W3 := hB.trans ⟨hgr.os, hgr.tape, hgr.output, hgr.size, fun k hk => hgr.block k (Nat.lt_of_lt_of_le hk hB.size) (fun e => by have := (World.ownsRow.lt hA k e.symm).1; omega)⟩
          have hS' := (hgr.block w.heap.size (by have := hB.size; omega) (fun e => by have := (World.ownsRow.lt hA _ e.symm).1; omega)).trans hHeld
          have hC' := (hgr.block gC (Array.getElem?_eq_some_iff.1 hC).1 (fun e => hCA e.symm)).trans hC
          have hCA' : vB.ownBlock ≠ some gC := by rcases hat with e | e; (rw [e]; exact hCA); (rw [e]; intro e2; simp at e2; have := (Array.getElem?_eq_some_iff.1 hC).1; omega)
          refine hK.out _ _ hS' (fun hHeld => ?_)
          clear hK K
          try simp only [Act.put, List.setIfInBounds_toArray, List.set_cons_zero, List.set_cons_succ]
          clear hB hA hC hCA hS' hgr hat
          have hB := hB'
          have hA := hA'
          have hC := hC'
          have hCA := hCA'
          clear hB' hA' hC' hCA'
          obtain ⟨vA, evA⟩ : ∃ x, x = vB := ⟨_, rfl⟩
          subst evA
          refine wpAnyH_ready (rs := [8, 10]) (by kernel_rfl) (by simp) ?_
          refine AllReadyH.cons (o := { dst := some 21, op := _, type := _, pos := _, after := _, guard := _ }) rfl (fun K hK => ?_) ?_
          · skip
            refine step_append_seq (by rfl) _ _ _ (by rfl) w1.heap.size 28 i0 (.agg #[.string .empty, .string .empty, .bool false]) 40 Try.underlying24 hi hz0 hz1 hz2 rfl vA len (ws.flatMap Wr.cells) (by rfl) hA (some ⟨gC, 0, none⟩) 1 1 [mark] (by rfl) (seq_one hC) (fun e => by cases e) (fun _ => rfl) wr_one (by unfold maxLen; omega) (by omega) hB.size ?_
            intro vB W4 hA' hgr hat
            rw [List.flatMap_singleton] at hA'
            have hB' : Below w1.heap.size w1 W4 := hB.trans ⟨hgr.os, hgr.tape, hgr.output, hgr.size, fun k hk => hgr.block k (Nat.lt_of_lt_of_le hk hB.size) (fun e => by have := (World.ownsRow.lt hA k e.symm).1; omega)⟩
            have hS' := (hgr.block w.heap.size (by have := hB.size; omega) (fun e => by have := (World.ownsRow.lt hA _ e.symm).1; omega)).trans hHeld
            have hC' := (hgr.block gC (Array.getElem?_eq_some_iff.1 hC).1 (fun e => hCA e.symm)).trans hC
            have hCA' : vB.ownBlock ≠ some gC := by rcases hat with e | e; (rw [e]; exact hCA); (rw [e]; intro e2; simp at e2; have := (Array.getElem?_eq_some_iff.1 hC).1; omega)
            refine hK.out _ _ hS' (fun hHeld => ?_)
            clear hK K
            try simp only [Act.put, List.setIfInBounds_toArray, List.set_cons_zero, List.set_cons_succ]
            clear hB hA hC hCA hS' hgr hat
            have hB := hB'
            have hA := hA'
            have hC := hC'
            have hCA := hCA'
            clear hB' hA' hC' hCA'
            obtain ⟨vA, evA⟩ : ∃ x, x = vB := ⟨_, rfl⟩
            subst evA
            obtain ⟨aD, lD, cD, rfl⟩ := row_form hA
            refine wpAnyH_take (i := 9) (oi := { dst := some 22, op := _, type := _, pos := _, after := _, guard := _ }) (v := ?_) rfl (by kernel_rfl) (by kernel_rfl) (by kernel_rfl) (fun _ _ _ h => h) (Or.inl ⟨by rfl, ?_⟩) (by assumption) ?_
            rotate_left 1
            · intro u s1; have k0 : u.cell? ⟨w.heap.size, 0, none⟩ = some (.int .i64 t) := (by rw [Go.Joins.cell_of_block s1]; rfl); have k1 : u.cell? ⟨w.heap.size, 1, none⟩ = some (.slice ao len cap) := (by rw [Go.Joins.cell_of_block s1]; rfl); go_simp; try with_reducible rfl
            try simp only [Act.put, List.setIfInBounds_toArray, List.set_cons_zero, List.set_cons_succ]
            refine wpAnyH_ready (rs := [10]) (by kernel_rfl) (by simp) ?_
            refine AllReadyH.cons (o := { dst := some 4, op := _, type := _, pos := _, after := _, guard := _ }) rfl (fun K hK => ?_) ?_
            · skip
              go_simp
              have hS' := (blk_alloc' W4 (.cells #[.int .i64 0, .slice none 0 0] 26) w.heap.size (by have := hB.size; omega)).trans hHeld
              have hB' := below_more hB (.cells #[.int .i64 0, .slice none 0 0] 26)
              have hA' := World.ownsRow.alloc hA (.cells #[.int .i64 0, .slice none 0 0] 26)
              have hAl : ∀ j, (Value.slice aD lD cD).ownBlock = some j → j ≠ W4.heap.size := fun j hj e => by have := (World.ownsRow.lt hA j hj).2; omega
              have hC' := (blk_alloc' W4 (.cells #[.int .i64 0, .slice none 0 0] 26) gC (Array.getElem?_eq_some_iff.1 hC).1).trans hC
              have hF' := heap_alloc_new W4 (.cells #[.int .i64 0, .slice none 0 0] 26)
              refine hK.out _ _ hS' (fun hHeld => ?_)
              clear hK K
              try simp only [Act.put, List.setIfInBounds_toArray, List.set_cons_zero, List.set_cons_succ]
              have hFA : (Value.slice aD lD cD).ownBlock ≠ some W4.heap.size := fun e => hAl _ e rfl
              have hpF : w1.heap.size ≤ W4.heap.size := hB.size
              obtain ⟨pF, epF⟩ : ∃ x, x = W4.heap.size := ⟨_, rfl⟩
              rw [← epF] at hF' hpF ⊢ hFA
              have hCF : gC ≠ pF := by rw [epF]; have := (Array.getElem?_eq_some_iff.1 hC).1; omega
              clear epF
              clear hB hA hC hS'
              generalize W4.alloc (.cells #[.int .i64 0, .slice none 0 0] 26) = W5 at hB' hA' hC' hF' hHeld ⊢
              have hB := hB'
              have hA := hA'
              have hC := hC'
              have hF := hF'
              clear hB' hA' hC' hF'
              refine wpAnyH_ready (rs := [11]) (by kernel_rfl) (by simp) ?_
              refine AllReadyH.cons (o := { dst := none, op := _, type := _, pos := _, after := _, guard := _ }) rfl (fun K hK => ?_) ?_
              · skip
                have e0 : W5.cell? ⟨pF, 0, none⟩ = some (.int .i64 0) := by rw [Go.Joins.cell_of_block hF]; rfl
                have e1 : W5.cell? ⟨pF, 1, none⟩ = some (.slice none 0 0) := by rw [Go.Joins.cell_of_block hF]; rfl
                have ef0 := Go.Joins.unfrozen_of_block hF 0
                have ef1 := Go.Joins.unfrozen_of_block hF 1
                have hpl : pF < W5.heap.size := (Array.getElem?_eq_some_iff.1 hF).1
                have FIN : ((W5.setCell ⟨pF, 0, none⟩ (.int .i64 t)).setCell ⟨pF, 1, none⟩ (.slice aD lD cD)).heap[pF]? = some (.cells #[.int .i64 t, .slice aD lD cD] 26 (0, 0)) := blk_set2 hF _ _
                have ROW := World.ownsRow.kept hA (set2 W5 pF (.int .i64 t) (.slice aD lD cD)) (.inr hFA)
                have BLW : Below w1.heap.size w1 ((W5.setCell ⟨pF, 0, none⟩ (.int .i64 t)).setCell ⟨pF, 1, none⟩ (.slice aD lD cD)) := (hB.setCell (p := ⟨pF, 0, none⟩) (by simpa using hpF) _).setCell (p := ⟨pF, 1, none⟩) (by simpa using hpF) _
                have hS' : ((W5.setCell ⟨pF, 0, none⟩ (.int .i64 t)).setCell ⟨pF, 1, none⟩ (.slice aD lD cD)).heap[w.heap.size]? = some (.cells #[.int .i64 t, .slice ao len cap] 26 (0, 0)) := ((set2 W5 pF (.int .i64 t) (.slice aD lD cD)).block w.heap.size (by have := hB.size; omega) (by simp; omega)).trans hHeld
                go_simp
                refine hK.out _ _ hS' (fun hHeld => ?_)
                clear hK K
                try simp only [Act.put, List.setIfInBounds_toArray, List.set_cons_zero, List.set_cons_succ]
                refine wpAnyH_done (by kernel_rfl) ?_ _
                refine NoPanic.normal ?_
                refine hK1 _ _ (Met.intro (hJ1 _ _ ?_))
                (repeat apply Exists.intro)
                refine ⟨?_, rfl⟩
                exact ⟨_, _, _, _, rfl, FIN, ROW, BLW, hpF, hFA⟩
              exact AllReadyH.nil
            exact AllReadyH.nil
          refine AllReadyH.cons (o := { dst := some 4, op := _, type := _, pos := _, after := _, guard := _ }) rfl (fun K hK => ?_) ?_
          · skip
            go_simp
            have hS' := (blk_alloc' W3 (.cells #[.int .i64 0, .slice none 0 0] 26) w.heap.size (by have := hB.size; omega)).trans hHeld
            have hB' := below_more hB (.cells #[.int .i64 0, .slice none 0 0] 26)
            have hA' := World.ownsRow.alloc hA (.cells #[.int .i64 0, .slice none 0 0] 26)
            have hAl : ∀ j, vA.ownBlock = some j → j ≠ W3.heap.size := fun j hj e => by have := (World.ownsRow.lt hA j hj).2; omega
            have hC' := (blk_alloc' W3 (.cells #[.int .i64 0, .slice none 0 0] 26) gC (Array.getElem?_eq_some_iff.1 hC).1).trans hC
            have hF' := heap_alloc_new W3 (.cells #[.int .i64 0, .slice none 0 0] 26)
            refine hK.out _ _ hS' (fun hHeld => ?_)
            clear hK K
            try simp only [Act.put, List.setIfInBounds_toArray, List.set_cons_zero, List.set_cons_succ]
            have hFA : vA.ownBlock ≠ some W3.heap.size := fun e => hAl _ e rfl
            have hpF : w1.heap.size ≤ W3.heap.size := hB.size
            obtain ⟨pF, epF⟩ : ∃ x, x = W3.heap.size := ⟨_, rfl⟩
            rw [← epF] at hF' hpF ⊢ hFA
            have hCF : gC ≠ pF := by rw [epF]; have := (Array.getElem?_eq_some_iff.1 hC).1; omega
            clear epF
            clear hB hA hC hS'
            generalize W3.alloc (.cells #[.int .i64 0, .slice none 0 0] 26) = W4 at hB' hA' hC' hF' hHeld ⊢
            have hB := hB'
            have hA := hA'
            have hC := hC'
            have hF := hF'
            clear hB' hA' hC' hF'
            refine wpAnyH_ready (rs := [8]) (by kernel_rfl) (by simp) ?_
            refine AllReadyH.cons (o := { dst := some 21, op := _, type := _, pos := _, after := _, guard := _ }) rfl (fun K hK => ?_) ?_
            · skip
              refine step_append_seq (by rfl) _ _ _ (by rfl) w1.heap.size 28 i0 (.agg #[.string .empty, .string .empty, .bool false]) 40 Try.underlying24 hi hz0 hz1 hz2 rfl vA len (ws.flatMap Wr.cells) (by rfl) hA (some ⟨gC, 0, none⟩) 1 1 [mark] (by rfl) (seq_one hC) (fun e => by cases e) (fun _ => rfl) wr_one (by unfold maxLen; omega) (by omega) hB.size ?_
              intro vB W5 hA' hgr hat
              rw [List.flatMap_singleton] at hA'
              have hB' : Below w1.heap.size w1 W5 := hB.trans ⟨hgr.os, hgr.tape, hgr.output, hgr.size, fun k hk => hgr.block k (Nat.lt_of_lt_of_le hk hB.size) (fun e => by have := (World.ownsRow.lt hA k e.symm).1; omega)⟩
              have hS' := (hgr.block w.heap.size (by have := hB.size; omega) (fun e => by have := (World.ownsRow.lt hA _ e.symm).1; omega)).trans hHeld
              have hC' := (hgr.block gC (Array.getElem?_eq_some_iff.1 hC).1 (fun e => hCA e.symm)).trans hC
              have hCA' : vB.ownBlock ≠ some gC := by rcases hat with e | e; (rw [e]; exact hCA); (rw [e]; intro e2; simp at e2; have := (Array.getElem?_eq_some_iff.1 hC).1; omega)
              have hF' := (hgr.block pF (Array.getElem?_eq_some_iff.1 hF).1 (fun e => hFA e.symm)).trans hF
              have hFA' : vB.ownBlock ≠ some pF := by rcases hat with e | e; (rw [e]; exact hFA); (rw [e]; intro e2; simp at e2; have := (Array.getElem?_eq_some_iff.1 hF).1; omega)
              refine hK.out _ _ hS' (fun hHeld => ?_)
              clear hK K
              try simp only [Act.put, List.setIfInBounds_toArray, List.set_cons_zero, List.set_cons_succ]
              clear hB hA hC hCA hF hFA hS' hgr hat
              have hB := hB'
              have hA := hA'
              have hC := hC'
              have hCA := hCA'
              have hF := hF'
              have hFA := hFA'
              clear hB' hA' hC' hCA' hF' hFA'
              obtain ⟨vA, evA⟩ : ∃ x, x = vB := ⟨_, rfl⟩
              subst evA
              obtain ⟨aD, lD, cD, rfl⟩ := row_form hA
              refine wpAnyH_take (i := 9) (oi := { dst := some 22, op := _, type := _, pos := _, after := _, guard := _ }) (v := ?_) rfl (by kernel_rfl) (by kernel_rfl) (by kernel_rfl) (fun _ _ _ h => h) (Or.inl ⟨by rfl, ?_⟩) (by assumption) ?_
              rotate_left 1
              · intro u s1; have k0 : u.cell? ⟨w.heap.size, 0, none⟩ = some (.int .i64 t) := (by rw [Go.Joins.cell_of_block s1]; rfl); have k1 : u.cell? ⟨w.heap.size, 1, none⟩ = some (.slice ao len cap) := (by rw [Go.Joins.cell_of_block s1]; rfl); go_simp; try with_reducible rfl
              try simp only [Act.put, List.setIfInBounds_toArray, List.set_cons_zero, List.set_cons_succ]
              refine wpAnyH_ready (rs := [11]) (by kernel_rfl) (by simp) ?_
              refine AllReadyH.cons (o := { dst := none, op := _, type := _, pos := _, after := _, guard := _ }) rfl (fun K hK => ?_) ?_
              · skip
                have e0 : W5.cell? ⟨pF, 0, none⟩ = some (.int .i64 0) := by rw [Go.Joins.cell_of_block hF]; rfl
                have e1 : W5.cell? ⟨pF, 1, none⟩ = some (.slice none 0 0) := by rw [Go.Joins.cell_of_block hF]; rfl
                have ef0 := Go.Joins.unfrozen_of_block hF 0
                have ef1 := Go.Joins.unfrozen_of_block hF 1
                have hpl : pF < W5.heap.size := (Array.getElem?_eq_some_iff.1 hF).1
                have FIN : ((W5.setCell ⟨pF, 0, none⟩ (.int .i64 t)).setCell ⟨pF, 1, none⟩ (.slice aD lD cD)).heap[pF]? = some (.cells #[.int .i64 t, .slice aD lD cD] 26 (0, 0)) := blk_set2 hF _ _
                have ROW := World.ownsRow.kept hA (set2 W5 pF (.int .i64 t) (.slice aD lD cD)) (.inr hFA)
                have BLW : Below w1.heap.size w1 ((W5.setCell ⟨pF, 0, none⟩ (.int .i64 t)).setCell ⟨pF, 1, none⟩ (.slice aD lD cD)) := (hB.setCell (p := ⟨pF, 0, none⟩) (by simpa using hpF) _).setCell (p := ⟨pF, 1, none⟩) (by simpa using hpF) _
                have hS' : ((W5.setCell ⟨pF, 0, none⟩ (.int .i64 t)).setCell ⟨pF, 1, none⟩ (.slice aD lD cD)).heap[w.heap.size]? = some (.cells #[.int .i64 t, .slice ao len cap] 26 (0, 0)) := ((set2 W5 pF (.int .i64 t) (.slice aD lD cD)).block w.heap.size (by have := hB.size; omega) (by simp; omega)).trans hHeld
                go_simp
                refine hK.out _ _ hS' (fun hHeld => ?_)
                clear hK K
                try simp only [Act.put, List.setIfInBounds_toArray, List.set_cons_zero, List.set_cons_succ]
                refine wpAnyH_done (by kernel_rfl) ?_ _
                refine NoPanic.normal ?_
                refine hK1 _ _ (Met.intro (hJ1 _ _ ?_))
                (repeat apply Exists.intro)
                refine ⟨?_, rfl⟩
                exact ⟨_, _, _, _, rfl, FIN, ROW, BLW, hpF, hFA⟩
              exact AllReadyH.nil
            exact AllReadyH.nil
          exact AllReadyH.nil
        refine AllReadyH.cons (o := { dst := some 4, op := _, type := _, pos := _, after := _, guard := _ }) rfl (fun K hK => ?_) ?_
        · skip
          go_simp
          have hS' := (blk_alloc' W2 (.cells #[.int .i64 0, .slice none 0 0] 26) w.heap.size (by have := hB.size; omega)).trans hHeld
          have hB' := below_more hB (.cells #[.int .i64 0, .slice none 0 0] 26)
          have hA' := World.ownsRow.alloc hA (.cells #[.int .i64 0, .slice none 0 0] 26)
          have hAl : ∀ j, vA.ownBlock = some j → j ≠ W2.heap.size := fun j hj e => by have := (World.ownsRow.lt hA j hj).2; omega
          have hC' := (blk_alloc' W2 (.cells #[.int .i64 0, .slice none 0 0] 26) gC (Array.getElem?_eq_some_iff.1 hC).1).trans hC
          have hF' := heap_alloc_new W2 (.cells #[.int .i64 0, .slice none 0 0] 26)
          refine hK.out _ _ hS' (fun hHeld => ?_)
          clear hK K
          try simp only [Act.put, List.setIfInBounds_toArray, List.set_cons_zero, List.set_cons_succ]
          have hFA : vA.ownBlock ≠ some W2.heap.size := fun e => hAl _ e rfl
          have hpF : w1.heap.size ≤ W2.heap.size := hB.size
          obtain ⟨pF, epF⟩ : ∃ x, x = W2.heap.size := ⟨_, rfl⟩
          rw [← epF] at hF' hpF ⊢ hFA
          have hCF : gC ≠ pF := by rw [epF]; have := (Array.getElem?_eq_some_iff.1 hC).1; omega
          clear epF
          clear hB hA hC hS'
          generalize W2.alloc (.cells #[.int .i64 0, .slice none 0 0] 26) = W3 at hB' hA' hC' hF' hHeld ⊢
          have hB := hB'
          have hA := hA'
          have hC := hC'
          have hF := hF'
          clear hB' hA' hC' hF'
          refine wpAnyH_ready (rs := [5]) (by kernel_rfl) (by simp) ?_
          refine AllReadyH.cons (o := { dst := some 18, op := _, type := _, pos := _, after := _, guard := _ }) rfl (fun K hK => ?_) ?_
          · skip
            refine step_append_seq (by rfl) _ _ _ (by rfl) w1.heap.size 28 i0 (.agg #[.string .empty, .string .empty, .bool false]) 40 Try.underlying24 hi hz0 hz1 hz2 rfl vA 0 [] (by rfl) hA ao len cap ws (by rfl) ((HS.out.keep B1).keep hB) (fun e => by rcases Nat.eq_zero_or_pos len with h0 | h0; exact ⟨h0, hcap0 e⟩; obtain ⟨b, off, e2, _⟩ := HS.out.2.2.2 h0; rw [e] at e2; cases e2) (fun _ => rfl) wr_one (by unfold maxLen; omega) (by omega) hB.size ?_
            intro vB W4 hA' hgr hat
            rw [Nat.zero_add, List.nil_append] at hA'
            have hB' : Below w1.heap.size w1 W4 := hB.trans ⟨hgr.os, hgr.tape, hgr.output, hgr.size, fun k hk => hgr.block k (Nat.lt_of_lt_of_le hk hB.size) (fun e => by have := (World.ownsRow.lt hA k e.symm).1; omega)⟩
            have hS' := (hgr.block w.heap.size (by have := hB.size; omega) (fun e => by have := (World.ownsRow.lt hA _ e.symm).1; omega)).trans hHeld
            have hC' := (hgr.block gC (Array.getElem?_eq_some_iff.1 hC).1 (fun e => hCA e.symm)).trans hC
            have hCA' : vB.ownBlock ≠ some gC := by rcases hat with e | e; (rw [e]; exact hCA); (rw [e]; intro e2; simp at e2; have := (Array.getElem?_eq_some_iff.1 hC).1; omega)
            have hF' := (hgr.block pF (Array.getElem?_eq_some_iff.1 hF).1 (fun e => hFA e.symm)).trans hF
            have hFA' : vB.ownBlock ≠ some pF := by rcases hat with e | e; (rw [e]; exact hFA); (rw [e]; intro e2; simp at e2; have := (Array.getElem?_eq_some_iff.1 hF).1; omega)
            refine hK.out _ _ hS' (fun hHeld => ?_)
            clear hK K
            try simp only [Act.put, List.setIfInBounds_toArray, List.set_cons_zero, List.set_cons_succ]
            clear hB hA hC hCA hF hFA hS' hgr hat
            have hB := hB'
            have hA := hA'
            have hC := hC'
            have hCA := hCA'
            have hF := hF'
            have hFA := hFA'
            clear hB' hA' hC' hCA' hF' hFA'
            obtain ⟨vA, evA⟩ : ∃ x, x = vB := ⟨_, rfl⟩
            subst evA
            refine wpAnyH_ready (rs := [8]) (by kernel_rfl) (by simp) ?_
            refine AllReadyH.cons (o := { dst := some 21, op := _, type := _, pos := _, after := _, guard := _ }) rfl (fun K hK => ?_) ?_
            · skip
              refine step_append_seq (by rfl) _ _ _ (by rfl) w1.heap.size 28 i0 (.agg #[.string .empty, .string .empty, .bool false]) 40 Try.underlying24 hi hz0 hz1 hz2 rfl vA len (ws.flatMap Wr.cells) (by rfl) hA (some ⟨gC, 0, none⟩) 1 1 [mark] (by rfl) (seq_one hC) (fun e => by cases e) (fun _ => rfl) wr_one (by unfold maxLen; omega) (by omega) hB.size ?_
              intro vB W5 hA' hgr hat
              rw [List.flatMap_singleton] at hA'
              have hB' : Below w1.heap.size w1 W5 := hB.trans ⟨hgr.os, hgr.tape, hgr.output, hgr.size, fun k hk => hgr.block k (Nat.lt_of_lt_of_le hk hB.size) (fun e => by have := (World.ownsRow.lt hA k e.symm).1; omega)⟩
              have hS' := (hgr.block w.heap.size (by have := hB.size; omega) (fun e => by have := (World.ownsRow.lt hA _ e.symm).1; omega)).trans hHeld
              have hC' := (hgr.block gC (Array.getElem?_eq_some_iff.1 hC).1 (fun e => hCA e.symm)).trans hC
              have hCA' : vB.ownBlock ≠ some gC := by rcases hat with e | e; (rw [e]; exact hCA); (rw [e]; intro e2; simp at e2; have := (Array.getElem?_eq_some_iff.1 hC).1; omega)
              have hF' := (hgr.block pF (Array.getElem?_eq_some_iff.1 hF).1 (fun e => hFA e.symm)).trans hF
              have hFA' : vB.ownBlock ≠ some pF := by rcases hat with e | e; (rw [e]; exact hFA); (rw [e]; intro e2; simp at e2; have := (Array.getElem?_eq_some_iff.1 hF).1; omega)
              refine hK.out _ _ hS' (fun hHeld => ?_)
              clear hK K
              try simp only [Act.put, List.setIfInBounds_toArray, List.set_cons_zero, List.set_cons_succ]
              clear hB hA hC hCA hF hFA hS' hgr hat
              have hB := hB'
              have hA := hA'
              have hC := hC'
              have hCA := hCA'
              have hF := hF'
              have hFA := hFA'
              clear hB' hA' hC' hCA' hF' hFA'
              obtain ⟨vA, evA⟩ : ∃ x, x = vB := ⟨_, rfl⟩
              subst evA
              obtain ⟨aD, lD, cD, rfl⟩ := row_form hA
              refine wpAnyH_take (i := 9) (oi := { dst := some 22, op := _, type := _, pos := _, after := _, guard := _ }) (v := ?_) rfl (by kernel_rfl) (by kernel_rfl) (by kernel_rfl) (fun _ _ _ h => h) (Or.inl ⟨by rfl, ?_⟩) (by assumption) ?_
              rotate_left 1
              · intro u s1; have k0 : u.cell? ⟨w.heap.size, 0, none⟩ = some (.int .i64 t) := (by rw [Go.Joins.cell_of_block s1]; rfl); have k1 : u.cell? ⟨w.heap.size, 1, none⟩ = some (.slice ao len cap) := (by rw [Go.Joins.cell_of_block s1]; rfl); go_simp; try with_reducible rfl
              try simp only [Act.put, List.setIfInBounds_toArray, List.set_cons_zero, List.set_cons_succ]
              refine wpAnyH_ready (rs := [11]) (by kernel_rfl) (by simp) ?_
              refine AllReadyH.cons (o := { dst := none, op := _, type := _, pos := _, after := _, guard := _ }) rfl (fun K hK => ?_) ?_
              · skip
                have e0 : W5.cell? ⟨pF, 0, none⟩ = some (.int .i64 0) := by rw [Go.Joins.cell_of_block hF]; rfl
                have e1 : W5.cell? ⟨pF, 1, none⟩ = some (.slice none 0 0) := by rw [Go.Joins.cell_of_block hF]; rfl
                have ef0 := Go.Joins.unfrozen_of_block hF 0
                have ef1 := Go.Joins.unfrozen_of_block hF 1
                have hpl : pF < W5.heap.size := (Array.getElem?_eq_some_iff.1 hF).1
                have FIN : ((W5.setCell ⟨pF, 0, none⟩ (.int .i64 t)).setCell ⟨pF, 1, none⟩ (.slice aD lD cD)).heap[pF]? = some (.cells #[.int .i64 t, .slice aD lD cD] 26 (0, 0)) := blk_set2 hF _ _
                have ROW := World.ownsRow.kept hA (set2 W5 pF (.int .i64 t) (.slice aD lD cD)) (.inr hFA)
                have BLW : Below w1.heap.size w1 ((W5.setCell ⟨pF, 0, none⟩ (.int .i64 t)).setCell ⟨pF, 1, none⟩ (.slice aD lD cD)) := (hB.setCell (p := ⟨pF, 0, none⟩) (by simpa using hpF) _).setCell (p := ⟨pF, 1, none⟩) (by simpa using hpF) _
                have hS' : ((W5.setCell ⟨pF, 0, none⟩ (.int .i64 t)).setCell ⟨pF, 1, none⟩ (.slice aD lD cD)).heap[w.heap.size]? = some (.cells #[.int .i64 t, .slice ao len cap] 26 (0, 0)) := ((set2 W5 pF (.int .i64 t) (.slice aD lD cD)).block w.heap.size (by have := hB.size; omega) (by simp; omega)).trans hHeld
                go_simp
                refine hK.out _ _ hS' (fun hHeld => ?_)
                clear hK K
                try simp only [Act.put, List.setIfInBounds_toArray, List.set_cons_zero, List.set_cons_succ]
                refine wpAnyH_done (by kernel_rfl) ?_ _
                refine NoPanic.normal ?_
                refine hK1 _ _ (Met.intro (hJ1 _ _ ?_))
                (repeat apply Exists.intro)
                refine ⟨?_, rfl⟩
                exact ⟨_, _, _, _, rfl, FIN, ROW, BLW, hpF, hFA⟩
              exact AllReadyH.nil
            exact AllReadyH.nil
          exact AllReadyH.nil
        exact AllReadyH.nil
      refine AllReadyH.cons (o := { dst := some 4, op := _, type := _, pos := _, after := _, guard := _ }) rfl (fun K hK => ?_) ?_
      · skip
        go_simp
        have hS' := (blk_alloc' W1 (.cells #[.int .i64 0, .slice none 0 0] 26) w.heap.size (by have := hB.size; omega)).trans hHeld
        have hB' := below_more hB (.cells #[.int .i64 0, .slice none 0 0] 26)
        have hC' := (blk_alloc' W1 (.cells #[.int .i64 0, .slice none 0 0] 26) gC (Array.getElem?_eq_some_iff.1 hC).1).trans hC
        have hF' := heap_alloc_new W1 (.cells #[.int .i64 0, .slice none 0 0] 26)
        refine hK.out _ _ hS' (fun hHeld => ?_)
        clear hK K
        try simp only [Act.put, List.setIfInBounds_toArray, List.set_cons_zero, List.set_cons_succ]
        have hpF : w1.heap.size ≤ W1.heap.size := hB.size
        obtain ⟨pF, epF⟩ : ∃ x, x = W1.heap.size := ⟨_, rfl⟩
        rw [← epF] at hF' hpF ⊢
        have hCF : gC ≠ pF := by rw [epF]; have := (Array.getElem?_eq_some_iff.1 hC).1; omega
        clear epF
        clear hB hC hS'
        generalize W1.alloc (.cells #[.int .i64 0, .slice none 0 0] 26) = W2 at hB' hC' hF' hHeld ⊢
        have hB := hB'
        have hC := hC'
        have hF := hF'
        clear hB' hC' hF'
        refine wpAnyH_ready (rs := [2]) (by kernel_rfl) (by simp) ?_
        refine AllReadyH.cons (o := { dst := some 15, op := _, type := _, pos := _, after := _, guard := _ }) rfl (fun K hK => ?_) ?_
        · skip
          go_simp
          have hS' := (blk_alloc' W2 (.cells #[] 28) w.heap.size (by have := hB.size; omega)).trans hHeld
          have hB' := below_more hB (.cells #[] 28)
          have hC' := (blk_alloc' W2 (.cells #[] 28) gC (Array.getElem?_eq_some_iff.1 hC).1).trans hC
          have hF' := (blk_alloc' W2 (.cells #[] 28) pF (Array.getElem?_eq_some_iff.1 hF).1).trans hF
          have hA' := empty_row W2 w1.heap.size hB.size
          refine hK.out _ _ hS' (fun hHeld => ?_)
          clear hK K
          try simp only [Act.put, List.setIfInBounds_toArray, List.set_cons_zero, List.set_cons_succ]
          have vA_ex : ∃ x, x = Value.slice (some ⟨W2.heap.size, 0, none⟩) 0 0 := ⟨_, rfl⟩
          obtain ⟨vA, evA⟩ := vA_ex
          rw [← evA] at hA' ⊢
          have hCA : vA.ownBlock ≠ some gC := by rw [evA]; intro e; simp [Value.ownBlock] at e; have := (Array.getElem?_eq_some_iff.1 hC).1; omega
          have hFA : vA.ownBlock ≠ some pF := by rw [evA]; intro e; simp [Value.ownBlock] at e; have := (Array.getElem?_eq_some_iff.1 hF).1; omega
          clear evA
          clear hB hC hF hS'
          generalize W2.alloc (.cells #[] 28) = W3 at hB' hA' hC' hF' hHeld ⊢
          have hB := hB'
          have hA := hA'
          have hC := hC'
          have hF := hF'
          clear hB' hA' hC' hF'
          refine wpAnyH_ready (rs := [5]) (by kernel_rfl) (by simp) ?_
          refine AllReadyH.cons (o := { dst := some 18, op := _, type := _, pos := _, after := _, guard := _ }) rfl (fun K hK => ?_) ?_
          · skip
            refine step_append_seq (by rfl) _ _ _ (by rfl) w1.heap.size 28 i0 (.agg #[.string .empty, .string .empty, .bool false]) 40 Try.underlying24 hi hz0 hz1 hz2 rfl vA 0 [] (by rfl) hA ao len cap ws (by rfl) ((HS.out.keep B1).keep hB) (fun e => by rcases Nat.eq_zero_or_pos len with h0 | h0; exact ⟨h0, hcap0 e⟩; obtain ⟨b, off, e2, _⟩ := HS.out.2.2.2 h0; rw [e] at e2; cases e2) (fun _ => rfl) wr_one (by unfold maxLen; omega) (by omega) hB.size ?_
            intro vB W4 hA' hgr hat
            rw [Nat.zero_add, List.nil_append] at hA'
            have hB' : Below w1.heap.size w1 W4 := hB.trans ⟨hgr.os, hgr.tape, hgr.output, hgr.size, fun k hk => hgr.block k (Nat.lt_of_lt_of_le hk hB.size) (fun e => by have := (World.ownsRow.lt hA k e.symm).1; omega)⟩
            have hS' := (hgr.block w.heap.size (by have := hB.size; omega) (fun e => by have := (World.ownsRow.lt hA _ e.symm).1; omega)).trans hHeld
            have hC' := (hgr.block gC (Array.getElem?_eq_some_iff.1 hC).1 (fun e => hCA e.symm)).trans hC
            have hCA' : vB.ownBlock ≠ some gC := by rcases hat with e | e; (rw [e]; exact hCA); (rw [e]; intro e2; simp at e2; have := (Array.getElem?_eq_some_iff.1 hC).1; omega)
            have hF' := (hgr.block pF (Array.getElem?_eq_some_iff.1 hF).1 (fun e => hFA e.symm)).trans hF
            have hFA' : vB.ownBlock ≠ some pF := by rcases hat with e | e; (rw [e]; exact hFA); (rw [e]; intro e2; simp at e2; have := (Array.getElem?_eq_some_iff.1 hF).1; omega)
            refine hK.out _ _ hS' (fun hHeld => ?_)
            clear hK K
            try simp only [Act.put, List.setIfInBounds_toArray, List.set_cons_zero, List.set_cons_succ]
            clear hB hA hC hCA hF hFA hS' hgr hat
            have hB := hB'
            have hA := hA'
            have hC := hC'
            have hCA := hCA'
            have hF := hF'
            have hFA := hFA'
            clear hB' hA' hC' hCA' hF' hFA'
            obtain ⟨vA, evA⟩ : ∃ x, x = vB := ⟨_, rfl⟩
            subst evA
            refine wpAnyH_ready (rs := [8]) (by kernel_rfl) (by simp) ?_
            refine AllReadyH.cons (o := { dst := some 21, op := _, type := _, pos := _, after := _, guard := _ }) rfl (fun K hK => ?_) ?_
            · skip
              refine step_append_seq (by rfl) _ _ _ (by rfl) w1.heap.size 28 i0 (.agg #[.string .empty, .string .empty, .bool false]) 40 Try.underlying24 hi hz0 hz1 hz2 rfl vA len (ws.flatMap Wr.cells) (by rfl) hA (some ⟨gC, 0, none⟩) 1 1 [mark] (by rfl) (seq_one hC) (fun e => by cases e) (fun _ => rfl) wr_one (by unfold maxLen; omega) (by omega) hB.size ?_
              intro vB W5 hA' hgr hat
              rw [List.flatMap_singleton] at hA'
              have hB' : Below w1.heap.size w1 W5 := hB.trans ⟨hgr.os, hgr.tape, hgr.output, hgr.size, fun k hk => hgr.block k (Nat.lt_of_lt_of_le hk hB.size) (fun e => by have := (World.ownsRow.lt hA k e.symm).1; omega)⟩
              have hS' := (hgr.block w.heap.size (by have := hB.size; omega) (fun e => by have := (World.ownsRow.lt hA _ e.symm).1; omega)).trans hHeld
              have hC' := (hgr.block gC (Array.getElem?_eq_some_iff.1 hC).1 (fun e => hCA e.symm)).trans hC
              have hCA' : vB.ownBlock ≠ some gC := by rcases hat with e | e; (rw [e]; exact hCA); (rw [e]; intro e2; simp at e2; have := (Array.getElem?_eq_some_iff.1 hC).1; omega)
              have hF' := (hgr.block pF (Array.getElem?_eq_some_iff.1 hF).1 (fun e => hFA e.symm)).trans hF
              have hFA' : vB.ownBlock ≠ some pF := by rcases hat with e | e; (rw [e]; exact hFA); (rw [e]; intro e2; simp at e2; have := (Array.getElem?_eq_some_iff.1 hF).1; omega)
              refine hK.out _ _ hS' (fun hHeld => ?_)
              clear hK K
              try simp only [Act.put, List.setIfInBounds_toArray, List.set_cons_zero, List.set_cons_succ]
              clear hB hA hC hCA hF hFA hS' hgr hat
              have hB := hB'
              have hA := hA'
              have hC := hC'
              have hCA := hCA'
              have hF := hF'
              have hFA := hFA'
              clear hB' hA' hC' hCA' hF' hFA'
              obtain ⟨vA, evA⟩ : ∃ x, x = vB := ⟨_, rfl⟩
              subst evA
              obtain ⟨aD, lD, cD, rfl⟩ := row_form hA
              refine wpAnyH_take (i := 9) (oi := { dst := some 22, op := _, type := _, pos := _, after := _, guard := _ }) (v := ?_) rfl (by kernel_rfl) (by kernel_rfl) (by kernel_rfl) (fun _ _ _ h => h) (Or.inl ⟨by rfl, ?_⟩) (by assumption) ?_
              rotate_left 1
              · intro u s1; have k0 : u.cell? ⟨w.heap.size, 0, none⟩ = some (.int .i64 t) := (by rw [Go.Joins.cell_of_block s1]; rfl); have k1 : u.cell? ⟨w.heap.size, 1, none⟩ = some (.slice ao len cap) := (by rw [Go.Joins.cell_of_block s1]; rfl); go_simp; try with_reducible rfl
              try simp only [Act.put, List.setIfInBounds_toArray, List.set_cons_zero, List.set_cons_succ]
              refine wpAnyH_ready (rs := [11]) (by kernel_rfl) (by simp) ?_
              refine AllReadyH.cons (o := { dst := none, op := _, type := _, pos := _, after := _, guard := _ }) rfl (fun K hK => ?_) ?_
              · skip
                have e0 : W5.cell? ⟨pF, 0, none⟩ = some (.int .i64 0) := by rw [Go.Joins.cell_of_block hF]; rfl
                have e1 : W5.cell? ⟨pF, 1, none⟩ = some (.slice none 0 0) := by rw [Go.Joins.cell_of_block hF]; rfl
                have ef0 := Go.Joins.unfrozen_of_block hF 0
                have ef1 := Go.Joins.unfrozen_of_block hF 1
                have hpl : pF < W5.heap.size := (Array.getElem?_eq_some_iff.1 hF).1
                have FIN : ((W5.setCell ⟨pF, 0, none⟩ (.int .i64 t)).setCell ⟨pF, 1, none⟩ (.slice aD lD cD)).heap[pF]? = some (.cells #[.int .i64 t, .slice aD lD cD] 26 (0, 0)) := blk_set2 hF _ _
                have ROW := World.ownsRow.kept hA (set2 W5 pF (.int .i64 t) (.slice aD lD cD)) (.inr hFA)
                have BLW : Below w1.heap.size w1 ((W5.setCell ⟨pF, 0, none⟩ (.int .i64 t)).setCell ⟨pF, 1, none⟩ (.slice aD lD cD)) := (hB.setCell (p := ⟨pF, 0, none⟩) (by simpa using hpF) _).setCell (p := ⟨pF, 1, none⟩) (by simpa using hpF) _
                have hS' : ((W5.setCell ⟨pF, 0, none⟩ (.int .i64 t)).setCell ⟨pF, 1, none⟩ (.slice aD lD cD)).heap[w.heap.size]? = some (.cells #[.int .i64 t, .slice ao len cap] 26 (0, 0)) := ((set2 W5 pF (.int .i64 t) (.slice aD lD cD)).block w.heap.size (by have := hB.size; omega) (by simp; omega)).trans hHeld
                go_simp
                refine hK.out _ _ hS' (fun hHeld => ?_)
                clear hK K
                try simp only [Act.put, List.setIfInBounds_toArray, List.set_cons_zero, List.set_cons_succ]
                refine wpAnyH_done (by kernel_rfl) ?_ _
                refine NoPanic.normal ?_
                refine hK1 _ _ (Met.intro (hJ1 _ _ ?_))
                (repeat apply Exists.intro)
                refine ⟨?_, rfl⟩
                exact ⟨_, _, _, _, rfl, FIN, ROW, BLW, hpF, hFA⟩
              exact AllReadyH.nil
            exact AllReadyH.nil
          exact AllReadyH.nil
        exact AllReadyH.nil
      exact AllReadyH.nil
    refine AllReadyH.cons (o := { dst := some 4, op := _, type := _, pos := _, after := _, guard := _ }) rfl (fun K hK => ?_) ?_
    · skip
      go_simp
      have hS' := (blk_alloc' W0 (.cells #[.int .i64 0, .slice none 0 0] 26) w.heap.size (by have := hB.size; omega)).trans hHeld
      have hB' := below_more hB (.cells #[.int .i64 0, .slice none 0 0] 26)
      have hF' := heap_alloc_new W0 (.cells #[.int .i64 0, .slice none 0 0] 26)
      refine hK.out _ _ hS' (fun hHeld => ?_)
      clear hK K
      try simp only [Act.put, List.setIfInBounds_toArray, List.set_cons_zero, List.set_cons_succ]
      have hpF : w1.heap.size ≤ W0.heap.size := hB.size
      obtain ⟨pF, epF⟩ : ∃ x, x = W0.heap.size := ⟨_, rfl⟩
      rw [← epF] at hF' hpF ⊢
      clear epF
      clear hB hS'
      generalize W0.alloc (.cells #[.int .i64 0, .slice none 0 0] 26) = W1 at hB' hF' hHeld ⊢
      have hB := hB'
      have hF := hF'
      clear hB' hF'
      refine wpAnyH_ready (rs := [2, 7]) (by kernel_rfl) (by simp) ?_
      refine AllReadyH.cons (o := { dst := some 15, op := _, type := _, pos := _, after := _, guard := _ }) rfl (fun K hK => ?_) ?_
      · skip
        go_simp
        have hS' := (blk_alloc' W1 (.cells #[] 28) w.heap.size (by have := hB.size; omega)).trans hHeld
        have hB' := below_more hB (.cells #[] 28)
        have hF' := (blk_alloc' W1 (.cells #[] 28) pF (Array.getElem?_eq_some_iff.1 hF).1).trans hF
        have hA' := empty_row W1 w1.heap.size hB.size
        refine hK.out _ _ hS' (fun hHeld => ?_)
        clear hK K
        try simp only [Act.put, List.setIfInBounds_toArray, List.set_cons_zero, List.set_cons_succ]
        have vA_ex : ∃ x, x = Value.slice (some ⟨W1.heap.size, 0, none⟩) 0 0 := ⟨_, rfl⟩
        obtain ⟨vA, evA⟩ := vA_ex
        rw [← evA] at hA' ⊢
        have hFA : vA.ownBlock ≠ some pF := by rw [evA]; intro e; simp [Value.ownBlock] at e; have := (Array.getElem?_eq_some_iff.1 hF).1; omega
        clear evA
        clear hB hF hS'
        generalize W1.alloc (.cells #[] 28) = W2 at hB' hA' hF' hHeld ⊢
        have hB := hB'
        have hA := hA'
        have hF := hF'
        clear hB' hA' hF'
        refine wpAnyH_ready (rs := [5, 7]) (by kernel_rfl) (by simp) ?_
        refine AllReadyH.cons (o := { dst := some 18, op := _, type := _, pos := _, after := _, guard := _ }) rfl (fun K hK => ?_) ?_
        · skip
          refine step_append_seq (by rfl) _ _ _ (by rfl) w1.heap.size 28 i0 (.agg #[.string .empty, .string .empty, .bool false]) 40 Try.underlying24 hi hz0 hz1 hz2 rfl vA 0 [] (by rfl) hA ao len cap ws (by rfl) ((HS.out.keep B1).keep hB) (fun e => by rcases Nat.eq_zero_or_pos len with h0 | h0; exact ⟨h0, hcap0 e⟩; obtain ⟨b, off, e2, _⟩ := HS.out.2.2.2 h0; rw [e] at e2; cases e2) (fun _ => rfl) wr_one (by unfold maxLen; omega) (by omega) hB.size ?_
          intro vB W3 hA' hgr hat
          rw [Nat.zero_add, List.nil_append] at hA'
          have hB' : Below w1.heap.size w1 W3 := hB.trans ⟨hgr.os, hgr.tape, hgr.output, hgr.size, fun k hk => hgr.block k (Nat.lt_of_lt_of_le hk hB.size) (fun e => by have := (World.ownsRow.lt hA k e.symm).1; omega)⟩
          have hS' := (hgr.block w.heap.size (by have := hB.size; omega) (fun e => by have := (World.ownsRow.lt hA _ e.symm).1; omega)).trans hHeld
          have hF' := (hgr.block pF (Array.getElem?_eq_some_iff.1 hF).1 (fun e => hFA e.symm)).trans hF
          have hFA' : vB.ownBlock ≠ some pF := by rcases hat with e | e; (rw [e]; exact hFA); (rw [e]; intro e2; simp at e2; have := (Array.getElem?_eq_some_iff.1 hF).1; omega)
          refine hK.out _ _ hS' (fun hHeld => ?_)
          clear hK K
          try simp only [Act.put, List.setIfInBounds_toArray, List.set_cons_zero, List.set_cons_succ]
          clear hB hA hF hFA hS' hgr hat
          have hB := hB'
          have hA := hA'
          have hF := hF'
          have hFA := hFA'
          clear hB' hA' hF' hFA'
          obtain ⟨vA, evA⟩ : ∃ x, x = vB := ⟨_, rfl⟩
          subst evA
          refine wpAnyH_ready (rs := [7]) (by kernel_rfl) (by simp) ?_
          refine AllReadyH.cons (o := { dst := some 20, op := _, type := _, pos := _, after := _, guard := _ }) rfl (fun K hK => ?_) ?_
          · skip
            go_simp
            have hS' := (blk_alloc' W3 (.cells #[.string ⟨#[109, 97, 114, 107]⟩, .string ⟨#[]⟩, .bool false] 28) w.heap.size (by have := hB.size; omega)).trans hHeld
            have hB' := below_more hB (.cells #[.string ⟨#[109, 97, 114, 107]⟩, .string ⟨#[]⟩, .bool false] 28)
            have hA' := World.ownsRow.alloc hA (.cells #[.string ⟨#[109, 97, 114, 107]⟩, .string ⟨#[]⟩, .bool false] 28)
            have hAl : ∀ j, vA.ownBlock = some j → j ≠ W3.heap.size := fun j hj e => by have := (World.ownsRow.lt hA j hj).2; omega
            have hF' := (blk_alloc' W3 (.cells #[.string ⟨#[109, 97, 114, 107]⟩, .string ⟨#[]⟩, .bool false] 28) pF (Array.getElem?_eq_some_iff.1 hF).1).trans hF
            have hC' := heap_alloc_new W3 (.cells #[.string ⟨#[109, 97, 114, 107]⟩, .string ⟨#[]⟩, .bool false] 28)
            refine hK.out _ _ hS' (fun hHeld => ?_)
            clear hK K
            try simp only [Act.put, List.setIfInBounds_toArray, List.set_cons_zero, List.set_cons_succ]
            have hCA : vA.ownBlock ≠ some W3.heap.size := fun e => hAl _ e rfl
            have hgC : w1.heap.size ≤ W3.heap.size := hB.size
            obtain ⟨gC, egC⟩ : ∃ x, x = W3.heap.size := ⟨_, rfl⟩
            rw [← egC] at hC' hgC ⊢ hCA
            have hCF : gC ≠ pF := by rw [egC]; have := (Array.getElem?_eq_some_iff.1 hF).1; omega
            clear egC
            clear hB hA hF hS'
            generalize W3.alloc (.cells #[.string ⟨#[109, 97, 114, 107]⟩, .string ⟨#[]⟩, .bool false] 28) = W4 at hB' hA' hC' hF' hHeld ⊢
            have hB := hB'
            have hA := hA'
            have hC := hC'
            have hF := hF'
            clear hB' hA' hC' hF'
            refine wpAnyH_ready (rs := [8]) (by kernel_rfl) (by simp) ?_
            refine AllReadyH.cons (o := { dst := some 21, op := _, type := _, pos := _, after := _, guard := _ }) rfl (fun K hK => ?_) ?_
            · skip
              refine step_append_seq (by rfl) _ _ _ (by rfl) w1.heap.size 28 i0 (.agg #[.string .empty, .string .empty, .bool false]) 40 Try.underlying24 hi hz0 hz1 hz2 rfl vA len (ws.flatMap Wr.cells) (by rfl) hA (some ⟨gC, 0, none⟩) 1 1 [mark] (by rfl) (seq_one hC) (fun e => by cases e) (fun _ => rfl) wr_one (by unfold maxLen; omega) (by omega) hB.size ?_
              intro vB W5 hA' hgr hat
              rw [List.flatMap_singleton] at hA'
              have hB' : Below w1.heap.size w1 W5 := hB.trans ⟨hgr.os, hgr.tape, hgr.output, hgr.size, fun k hk => hgr.block k (Nat.lt_of_lt_of_le hk hB.size) (fun e => by have := (World.ownsRow.lt hA k e.symm).1; omega)⟩
              have hS' := (hgr.block w.heap.size (by have := hB.size; omega) (fun e => by have := (World.ownsRow.lt hA _ e.symm).1; omega)).trans hHeld
              have hC' := (hgr.block gC (Array.getElem?_eq_some_iff.1 hC).1 (fun e => hCA e.symm)).trans hC
              have hCA' : vB.ownBlock ≠ some gC := by rcases hat with e | e; (rw [e]; exact hCA); (rw [e]; intro e2; simp at e2; have := (Array.getElem?_eq_some_iff.1 hC).1; omega)
              have hF' := (hgr.block pF (Array.getElem?_eq_some_iff.1 hF).1 (fun e => hFA e.symm)).trans hF
              have hFA' : vB.ownBlock ≠ some pF := by rcases hat with e | e; (rw [e]; exact hFA); (rw [e]; intro e2; simp at e2; have := (Array.getElem?_eq_some_iff.1 hF).1; omega)
              refine hK.out _ _ hS' (fun hHeld => ?_)
              clear hK K
              try simp only [Act.put, List.setIfInBounds_toArray, List.set_cons_zero, List.set_cons_succ]
              clear hB hA hC hCA hF hFA hS' hgr hat
              have hB := hB'
              have hA := hA'
              have hC := hC'
              have hCA := hCA'
              have hF := hF'
              have hFA := hFA'
              clear hB' hA' hC' hCA' hF' hFA'
              obtain ⟨vA, evA⟩ : ∃ x, x = vB := ⟨_, rfl⟩
              subst evA
              obtain ⟨aD, lD, cD, rfl⟩ := row_form hA
              refine wpAnyH_take (i := 9) (oi := { dst := some 22, op := _, type := _, pos := _, after := _, guard := _ }) (v := ?_) rfl (by kernel_rfl) (by kernel_rfl) (by kernel_rfl) (fun _ _ _ h => h) (Or.inl ⟨by rfl, ?_⟩) (by assumption) ?_
              rotate_left 1
              · intro u s1; have k0 : u.cell? ⟨w.heap.size, 0, none⟩ = some (.int .i64 t) := (by rw [Go.Joins.cell_of_block s1]; rfl); have k1 : u.cell? ⟨w.heap.size, 1, none⟩ = some (.slice ao len cap) := (by rw [Go.Joins.cell_of_block s1]; rfl); go_simp; try with_reducible rfl
              try simp only [Act.put, List.setIfInBounds_toArray, List.set_cons_zero, List.set_cons_succ]
              refine wpAnyH_ready (rs := [11]) (by kernel_rfl) (by simp) ?_
              refine AllReadyH.cons (o := { dst := none, op := _, type := _, pos := _, after := _, guard := _ }) rfl (fun K hK => ?_) ?_
              · skip
                have e0 : W5.cell? ⟨pF, 0, none⟩ = some (.int .i64 0) := by rw [Go.Joins.cell_of_block hF]; rfl
                have e1 : W5.cell? ⟨pF, 1, none⟩ = some (.slice none 0 0) := by rw [Go.Joins.cell_of_block hF]; rfl
                have ef0 := Go.Joins.unfrozen_of_block hF 0
                have ef1 := Go.Joins.unfrozen_of_block hF 1
                have hpl : pF < W5.heap.size := (Array.getElem?_eq_some_iff.1 hF).1
                have FIN : ((W5.setCell ⟨pF, 0, none⟩ (.int .i64 t)).setCell ⟨pF, 1, none⟩ (.slice aD lD cD)).heap[pF]? = some (.cells #[.int .i64 t, .slice aD lD cD] 26 (0, 0)) := blk_set2 hF _ _
                have ROW := World.ownsRow.kept hA (set2 W5 pF (.int .i64 t) (.slice aD lD cD)) (.inr hFA)
                have BLW : Below w1.heap.size w1 ((W5.setCell ⟨pF, 0, none⟩ (.int .i64 t)).setCell ⟨pF, 1, none⟩ (.slice aD lD cD)) := (hB.setCell (p := ⟨pF, 0, none⟩) (by simpa using hpF) _).setCell (p := ⟨pF, 1, none⟩) (by simpa using hpF) _
                have hS' : ((W5.setCell ⟨pF, 0, none⟩ (.int .i64 t)).setCell ⟨pF, 1, none⟩ (.slice aD lD cD)).heap[w.heap.size]? = some (.cells #[.int .i64 t, .slice ao len cap] 26 (0, 0)) := ((set2 W5 pF (.int .i64 t) (.slice aD lD cD)).block w.heap.size (by have := hB.size; omega) (by simp; omega)).trans hHeld
                go_simp
                refine hK.out _ _ hS' (fun hHeld => ?_)
                clear hK K
                try simp only [Act.put, List.setIfInBounds_toArray, List.set_cons_zero, List.set_cons_succ]
                refine wpAnyH_done (by kernel_rfl) ?_ _
                refine NoPanic.normal ?_
                refine hK1 _ _ (Met.intro (hJ1 _ _ ?_))
                (repeat apply Exists.intro)
                refine ⟨?_, rfl⟩
                exact ⟨_, _, _, _, rfl, FIN, ROW, BLW, hpF, hFA⟩
              exact AllReadyH.nil
            exact AllReadyH.nil
          exact AllReadyH.nil
        refine AllReadyH.cons (o := { dst := some 20, op := _, type := _, pos := _, after := _, guard := _ }) rfl (fun K hK => ?_) ?_
        · skip
          go_simp
          have hS' := (blk_alloc' W2 (.cells #[.string ⟨#[109, 97, 114, 107]⟩, .string ⟨#[]⟩, .bool false] 28) w.heap.size (by have := hB.size; omega)).trans hHeld
          have hB' := below_more hB (.cells #[.string ⟨#[109, 97, 114, 107]⟩, .string ⟨#[]⟩, .bool false] 28)
          have hA' := World.ownsRow.alloc hA (.cells #[.string ⟨#[109, 97, 114, 107]⟩, .string ⟨#[]⟩, .bool false] 28)
          have hAl : ∀ j, vA.ownBlock = some j → j ≠ W2.heap.size := fun j hj e => by have := (World.ownsRow.lt hA j hj).2; omega
          have hF' := (blk_alloc' W2 (.cells #[.string ⟨#[109, 97, 114, 107]⟩, .string ⟨#[]⟩, .bool false] 28) pF (Array.getElem?_eq_some_iff.1 hF).1).trans hF
          have hC' := heap_alloc_new W2 (.cells #[.string ⟨#[109, 97, 114, 107]⟩, .string ⟨#[]⟩, .bool false] 28)
          refine hK.out _ _ hS' (fun hHeld => ?_)
          clear hK K
          try simp only [Act.put, List.setIfInBounds_toArray, List.set_cons_zero, List.set_cons_succ]
          have hCA : vA.ownBlock ≠ some W2.heap.size := fun e => hAl _ e rfl
          have hgC : w1.heap.size ≤ W2.heap.size := hB.size
          obtain ⟨gC, egC⟩ : ∃ x, x = W2.heap.size := ⟨_, rfl⟩
          rw [← egC] at hC' hgC ⊢ hCA
          have hCF : gC ≠ pF := by rw [egC]; have := (Array.getElem?_eq_some_iff.1 hF).1; omega
          clear egC
          clear hB hA hF hS'
          generalize W2.alloc (.cells #[.string ⟨#[109, 97, 114, 107]⟩, .string ⟨#[]⟩, .bool false] 28) = W3 at hB' hA' hC' hF' hHeld ⊢
          have hB := hB'
          have hA := hA'
          have hC := hC'
          have hF := hF'
          clear hB' hA' hC' hF'
          refine wpAnyH_ready (rs := [5]) (by kernel_rfl) (by simp) ?_
          refine AllReadyH.cons (o := { dst := some 18, op := _, type := _, pos := _, after := _, guard := _ }) rfl (fun K hK => ?_) ?_
          · skip
            refine step_append_seq (by rfl) _ _ _ (by rfl) w1.heap.size 28 i0 (.agg #[.string .empty, .string .empty, .bool false]) 40 Try.underlying24 hi hz0 hz1 hz2 rfl vA 0 [] (by rfl) hA ao len cap ws (by rfl) ((HS.out.keep B1).keep hB) (fun e => by rcases Nat.eq_zero_or_pos len with h0 | h0; exact ⟨h0, hcap0 e⟩; obtain ⟨b, off, e2, _⟩ := HS.out.2.2.2 h0; rw [e] at e2; cases e2) (fun _ => rfl) wr_one (by unfold maxLen; omega) (by omega) hB.size ?_
            intro vB W4 hA' hgr hat
            rw [Nat.zero_add, List.nil_append] at hA'
            have hB' : Below w1.heap.size w1 W4 := hB.trans ⟨hgr.os, hgr.tape, hgr.output, hgr.size, fun k hk => hgr.block k (Nat.lt_of_lt_of_le hk hB.size) (fun e => by have := (World.ownsRow.lt hA k e.symm).1; omega)⟩
            have hS' := (hgr.block w.heap.size (by have := hB.size; omega) (fun e => by have := (World.ownsRow.lt hA _ e.symm).1; omega)).trans hHeld
            have hC' := (hgr.block gC (Array.getElem?_eq_some_iff.1 hC).1 (fun e => hCA e.symm)).trans hC
            have hCA' : vB.ownBlock ≠ some gC := by rcases hat with e | e; (rw [e]; exact hCA); (rw [e]; intro e2; simp at e2; have := (Array.getElem?_eq_some_iff.1 hC).1; omega)
            have hF' := (hgr.block pF (Array.getElem?_eq_some_iff.1 hF).1 (fun e => hFA e.symm)).trans hF
            have hFA' : vB.ownBlock ≠ some pF := by rcases hat with e | e; (rw [e]; exact hFA); (rw [e]; intro e2; simp at e2; have := (Array.getElem?_eq_some_iff.1 hF).1; omega)
            refine hK.out _ _ hS' (fun hHeld => ?_)
            clear hK K
            try simp only [Act.put, List.setIfInBounds_toArray, List.set_cons_zero, List.set_cons_succ]
            clear hB hA hC hCA hF hFA hS' hgr hat
            have hB := hB'
            have hA := hA'
            have hC := hC'
            have hCA := hCA'
            have hF := hF'
            have hFA := hFA'
            clear hB' hA' hC' hCA' hF' hFA'
            obtain ⟨vA, evA⟩ : ∃ x, x = vB := ⟨_, rfl⟩
            subst evA
            refine wpAnyH_ready (rs := [8]) (by kernel_rfl) (by simp) ?_
            refine AllReadyH.cons (o := { dst := some 21, op := _, type := _, pos := _, after := _, guard := _ }) rfl (fun K hK => ?_) ?_
            · skip
              refine step_append_seq (by rfl) _ _ _ (by rfl) w1.heap.size 28 i0 (.agg #[.string .empty, .string .empty, .bool false]) 40 Try.underlying24 hi hz0 hz1 hz2 rfl vA len (ws.flatMap Wr.cells) (by rfl) hA (some ⟨gC, 0, none⟩) 1 1 [mark] (by rfl) (seq_one hC) (fun e => by cases e) (fun _ => rfl) wr_one (by unfold maxLen; omega) (by omega) hB.size ?_
              intro vB W5 hA' hgr hat
              rw [List.flatMap_singleton] at hA'
              have hB' : Below w1.heap.size w1 W5 := hB.trans ⟨hgr.os, hgr.tape, hgr.output, hgr.size, fun k hk => hgr.block k (Nat.lt_of_lt_of_le hk hB.size) (fun e => by have := (World.ownsRow.lt hA k e.symm).1; omega)⟩
              have hS' := (hgr.block w.heap.size (by have := hB.size; omega) (fun e => by have := (World.ownsRow.lt hA _ e.symm).1; omega)).trans hHeld
              have hC' := (hgr.block gC (Array.getElem?_eq_some_iff.1 hC).1 (fun e => hCA e.symm)).trans hC
              have hCA' : vB.ownBlock ≠ some gC := by rcases hat with e | e; (rw [e]; exact hCA); (rw [e]; intro e2; simp at e2; have := (Array.getElem?_eq_some_iff.1 hC).1; omega)
              have hF' := (hgr.block pF (Array.getElem?_eq_some_iff.1 hF).1 (fun e => hFA e.symm)).trans hF
              have hFA' : vB.ownBlock ≠ some pF := by rcases hat with e | e; (rw [e]; exact hFA); (rw [e]; intro e2; simp at e2; have := (Array.getElem?_eq_some_iff.1 hF).1; omega)
              refine hK.out _ _ hS' (fun hHeld => ?_)
              clear hK K
              try simp only [Act.put, List.setIfInBounds_toArray, List.set_cons_zero, List.set_cons_succ]
              clear hB hA hC hCA hF hFA hS' hgr hat
              have hB := hB'
              have hA := hA'
              have hC := hC'
              have hCA := hCA'
              have hF := hF'
              have hFA := hFA'
              clear hB' hA' hC' hCA' hF' hFA'
              obtain ⟨vA, evA⟩ : ∃ x, x = vB := ⟨_, rfl⟩
              subst evA
              obtain ⟨aD, lD, cD, rfl⟩ := row_form hA
              refine wpAnyH_take (i := 9) (oi := { dst := some 22, op := _, type := _, pos := _, after := _, guard := _ }) (v := ?_) rfl (by kernel_rfl) (by kernel_rfl) (by kernel_rfl) (fun _ _ _ h => h) (Or.inl ⟨by rfl, ?_⟩) (by assumption) ?_
              rotate_left 1
              · intro u s1; have k0 : u.cell? ⟨w.heap.size, 0, none⟩ = some (.int .i64 t) := (by rw [Go.Joins.cell_of_block s1]; rfl); have k1 : u.cell? ⟨w.heap.size, 1, none⟩ = some (.slice ao len cap) := (by rw [Go.Joins.cell_of_block s1]; rfl); go_simp; try with_reducible rfl
              try simp only [Act.put, List.setIfInBounds_toArray, List.set_cons_zero, List.set_cons_succ]
              refine wpAnyH_ready (rs := [11]) (by kernel_rfl) (by simp) ?_
              refine AllReadyH.cons (o := { dst := none, op := _, type := _, pos := _, after := _, guard := _ }) rfl (fun K hK => ?_) ?_
              · skip
                have e0 : W5.cell? ⟨pF, 0, none⟩ = some (.int .i64 0) := by rw [Go.Joins.cell_of_block hF]; rfl
                have e1 : W5.cell? ⟨pF, 1, none⟩ = some (.slice none 0 0) := by rw [Go.Joins.cell_of_block hF]; rfl
                have ef0 := Go.Joins.unfrozen_of_block hF 0
                have ef1 := Go.Joins.unfrozen_of_block hF 1
                have hpl : pF < W5.heap.size := (Array.getElem?_eq_some_iff.1 hF).1
                have FIN : ((W5.setCell ⟨pF, 0, none⟩ (.int .i64 t)).setCell ⟨pF, 1, none⟩ (.slice aD lD cD)).heap[pF]? = some (.cells #[.int .i64 t, .slice aD lD cD] 26 (0, 0)) := blk_set2 hF _ _
                have ROW := World.ownsRow.kept hA (set2 W5 pF (.int .i64 t) (.slice aD lD cD)) (.inr hFA)
                have BLW : Below w1.heap.size w1 ((W5.setCell ⟨pF, 0, none⟩ (.int .i64 t)).setCell ⟨pF, 1, none⟩ (.slice aD lD cD)) := (hB.setCell (p := ⟨pF, 0, none⟩) (by simpa using hpF) _).setCell (p := ⟨pF, 1, none⟩) (by simpa using hpF) _
                have hS' : ((W5.setCell ⟨pF, 0, none⟩ (.int .i64 t)).setCell ⟨pF, 1, none⟩ (.slice aD lD cD)).heap[w.heap.size]? = some (.cells #[.int .i64 t, .slice ao len cap] 26 (0, 0)) := ((set2 W5 pF (.int .i64 t) (.slice aD lD cD)).block w.heap.size (by have := hB.size; omega) (by simp; omega)).trans hHeld
                go_simp
                refine hK.out _ _ hS' (fun hHeld => ?_)
                clear hK K
                try simp only [Act.put, List.setIfInBounds_toArray, List.set_cons_zero, List.set_cons_succ]
                refine wpAnyH_done (by kernel_rfl) ?_ _
                refine NoPanic.normal ?_
                refine hK1 _ _ (Met.intro (hJ1 _ _ ?_))
                (repeat apply Exists.intro)
                refine ⟨?_, rfl⟩
                exact ⟨_, _, _, _, rfl, FIN, ROW, BLW, hpF, hFA⟩
              exact AllReadyH.nil
            exact AllReadyH.nil
          exact AllReadyH.nil
        exact AllReadyH.nil
      refine AllReadyH.cons (o := { dst := some 20, op := _, type := _, pos := _, after := _, guard := _ }) rfl (fun K hK => ?_) ?_
      · skip
        go_simp
        have hS' := (blk_alloc' W1 (.cells #[.string ⟨#[109, 97, 114, 107]⟩, .string ⟨#[]⟩, .bool false] 28) w.heap.size (by have := hB.size; omega)).trans hHeld
        have hB' := below_more hB (.cells #[.string ⟨#[109, 97, 114, 107]⟩, .string ⟨#[]⟩, .bool false] 28)
        have hF' := (blk_alloc' W1 (.cells #[.string ⟨#[109, 97, 114, 107]⟩, .string ⟨#[]⟩, .bool false] 28) pF (Array.getElem?_eq_some_iff.1 hF).1).trans hF
        have hC' := heap_alloc_new W1 (.cells #[.string ⟨#[109, 97, 114, 107]⟩, .string ⟨#[]⟩, .bool false] 28)
        refine hK.out _ _ hS' (fun hHeld => ?_)
        clear hK K
        try simp only [Act.put, List.setIfInBounds_toArray, List.set_cons_zero, List.set_cons_succ]
        have hgC : w1.heap.size ≤ W1.heap.size := hB.size
        obtain ⟨gC, egC⟩ : ∃ x, x = W1.heap.size := ⟨_, rfl⟩
        rw [← egC] at hC' hgC ⊢
        have hCF : gC ≠ pF := by rw [egC]; have := (Array.getElem?_eq_some_iff.1 hF).1; omega
        clear egC
        clear hB hF hS'
        generalize W1.alloc (.cells #[.string ⟨#[109, 97, 114, 107]⟩, .string ⟨#[]⟩, .bool false] 28) = W2 at hB' hC' hF' hHeld ⊢
        have hB := hB'
        have hC := hC'
        have hF := hF'
        clear hB' hC' hF'
        refine wpAnyH_ready (rs := [2]) (by kernel_rfl) (by simp) ?_
        refine AllReadyH.cons (o := { dst := some 15, op := _, type := _, pos := _, after := _, guard := _ }) rfl (fun K hK => ?_) ?_
        · skip
          go_simp
          have hS' := (blk_alloc' W2 (.cells #[] 28) w.heap.size (by have := hB.size; omega)).trans hHeld
          have hB' := below_more hB (.cells #[] 28)
          have hC' := (blk_alloc' W2 (.cells #[] 28) gC (Array.getElem?_eq_some_iff.1 hC).1).trans hC
          have hF' := (blk_alloc' W2 (.cells #[] 28) pF (Array.getElem?_eq_some_iff.1 hF).1).trans hF
          have hA' := empty_row W2 w1.heap.size hB.size
          refine hK.out _ _ hS' (fun hHeld => ?_)
          clear hK K
          try simp only [Act.put, List.setIfInBounds_toArray, List.set_cons_zero, List.set_cons_succ]
          have vA_ex : ∃ x, x = Value.slice (some ⟨W2.heap.size, 0, none⟩) 0 0 := ⟨_, rfl⟩
          obtain ⟨vA, evA⟩ := vA_ex
          rw [← evA] at hA' ⊢
          have hCA : vA.ownBlock ≠ some gC := by rw [evA]; intro e; simp [Value.ownBlock] at e; have := (Array.getElem?_eq_some_iff.1 hC).1; omega
          have hFA : vA.ownBlock ≠ some pF := by rw [evA]; intro e; simp [Value.ownBlock] at e; have := (Array.getElem?_eq_some_iff.1 hF).1; omega
          clear evA
          clear hB hC hF hS'
          generalize W2.alloc (.cells #[] 28) = W3 at hB' hA' hC' hF' hHeld ⊢
          have hB := hB'
          have hA := hA'
          have hC := hC'
          have hF := hF'
          clear hB' hA' hC' hF'
          refine wpAnyH_ready (rs := [5]) (by kernel_rfl) (by simp) ?_
          refine AllReadyH.cons (o := { dst := some 18, op := _, type := _, pos := _, after := _, guard := _ }) rfl (fun K hK => ?_) ?_
          · skip
            refine step_append_seq (by rfl) _ _ _ (by rfl) w1.heap.size 28 i0 (.agg #[.string .empty, .string .empty, .bool false]) 40 Try.underlying24 hi hz0 hz1 hz2 rfl vA 0 [] (by rfl) hA ao len cap ws (by rfl) ((HS.out.keep B1).keep hB) (fun e => by rcases Nat.eq_zero_or_pos len with h0 | h0; exact ⟨h0, hcap0 e⟩; obtain ⟨b, off, e2, _⟩ := HS.out.2.2.2 h0; rw [e] at e2; cases e2) (fun _ => rfl) wr_one (by unfold maxLen; omega) (by omega) hB.size ?_
            intro vB W4 hA' hgr hat
            rw [Nat.zero_add, List.nil_append] at hA'
            have hB' : Below w1.heap.size w1 W4 := hB.trans ⟨hgr.os, hgr.tape, hgr.output, hgr.size, fun k hk => hgr.block k (Nat.lt_of_lt_of_le hk hB.size) (fun e => by have := (World.ownsRow.lt hA k e.symm).1; omega)⟩
            have hS' := (hgr.block w.heap.size (by have := hB.size; omega) (fun e => by have := (World.ownsRow.lt hA _ e.symm).1; omega)).trans hHeld
            have hC' := (hgr.block gC (Array.getElem?_eq_some_iff.1 hC).1 (fun e => hCA e.symm)).trans hC
            have hCA' : vB.ownBlock ≠ some gC := by rcases hat with e | e; (rw [e]; exact hCA); (rw [e]; intro e2; simp at e2; have := (Array.getElem?_eq_some_iff.1 hC).1; omega)
            have hF' := (hgr.block pF (Array.getElem?_eq_some_iff.1 hF).1 (fun e => hFA e.symm)).trans hF
            have hFA' : vB.ownBlock ≠ some pF := by rcases hat with e | e; (rw [e]; exact hFA); (rw [e]; intro e2; simp at e2; have := (Array.getElem?_eq_some_iff.1 hF).1; omega)
            refine hK.out _ _ hS' (fun hHeld => ?_)
            clear hK K
            try simp only [Act.put, List.setIfInBounds_toArray, List.set_cons_zero, List.set_cons_succ]
            clear hB hA hC hCA hF hFA hS' hgr hat
            have hB := hB'
            have hA := hA'
            have hC := hC'
            have hCA := hCA'
            have hF := hF'
            have hFA := hFA'
            clear hB' hA' hC' hCA' hF' hFA'
            obtain ⟨vA, evA⟩ : ∃ x, x = vB := ⟨_, rfl⟩
            subst evA
            refine wpAnyH_ready (rs := [8]) (by kernel_rfl) (by simp) ?_
            refine AllReadyH.cons (o := { dst := some 21, op := _, type := _, pos := _, after := _, guard := _ }) rfl (fun K hK => ?_) ?_
            · skip
              refine step_append_seq (by rfl) _ _ _ (by rfl) w1.heap.size 28 i0 (.agg #[.string .empty, .string .empty, .bool false]) 40 Try.underlying24 hi hz0 hz1 hz2 rfl vA len (ws.flatMap Wr.cells) (by rfl) hA (some ⟨gC, 0, none⟩) 1 1 [mark] (by rfl) (seq_one hC) (fun e => by cases e) (fun _ => rfl) wr_one (by unfold maxLen; omega) (by omega) hB.size ?_
              intro vB W5 hA' hgr hat
              rw [List.flatMap_singleton] at hA'
              have hB' : Below w1.heap.size w1 W5 := hB.trans ⟨hgr.os, hgr.tape, hgr.output, hgr.size, fun k hk => hgr.block k (Nat.lt_of_lt_of_le hk hB.size) (fun e => by have := (World.ownsRow.lt hA k e.symm).1; omega)⟩
              have hS' := (hgr.block w.heap.size (by have := hB.size; omega) (fun e => by have := (World.ownsRow.lt hA _ e.symm).1; omega)).trans hHeld
              have hC' := (hgr.block gC (Array.getElem?_eq_some_iff.1 hC).1 (fun e => hCA e.symm)).trans hC
              have hCA' : vB.ownBlock ≠ some gC := by rcases hat with e | e; (rw [e]; exact hCA); (rw [e]; intro e2; simp at e2; have := (Array.getElem?_eq_some_iff.1 hC).1; omega)
              have hF' := (hgr.block pF (Array.getElem?_eq_some_iff.1 hF).1 (fun e => hFA e.symm)).trans hF
              have hFA' : vB.ownBlock ≠ some pF := by rcases hat with e | e; (rw [e]; exact hFA); (rw [e]; intro e2; simp at e2; have := (Array.getElem?_eq_some_iff.1 hF).1; omega)
              refine hK.out _ _ hS' (fun hHeld => ?_)
              clear hK K
              try simp only [Act.put, List.setIfInBounds_toArray, List.set_cons_zero, List.set_cons_succ]
              clear hB hA hC hCA hF hFA hS' hgr hat
              have hB := hB'
              have hA := hA'
              have hC := hC'
              have hCA := hCA'
              have hF := hF'
              have hFA := hFA'
              clear hB' hA' hC' hCA' hF' hFA'
              obtain ⟨vA, evA⟩ : ∃ x, x = vB := ⟨_, rfl⟩
              subst evA
              obtain ⟨aD, lD, cD, rfl⟩ := row_form hA
              refine wpAnyH_take (i := 9) (oi := { dst := some 22, op := _, type := _, pos := _, after := _, guard := _ }) (v := ?_) rfl (by kernel_rfl) (by kernel_rfl) (by kernel_rfl) (fun _ _ _ h => h) (Or.inl ⟨by rfl, ?_⟩) (by assumption) ?_
              rotate_left 1
              · intro u s1; have k0 : u.cell? ⟨w.heap.size, 0, none⟩ = some (.int .i64 t) := (by rw [Go.Joins.cell_of_block s1]; rfl); have k1 : u.cell? ⟨w.heap.size, 1, none⟩ = some (.slice ao len cap) := (by rw [Go.Joins.cell_of_block s1]; rfl); go_simp; try with_reducible rfl
              try simp only [Act.put, List.setIfInBounds_toArray, List.set_cons_zero, List.set_cons_succ]
              refine wpAnyH_ready (rs := [11]) (by kernel_rfl) (by simp) ?_
              refine AllReadyH.cons (o := { dst := none, op := _, type := _, pos := _, after := _, guard := _ }) rfl (fun K hK => ?_) ?_
              · skip
                have e0 : W5.cell? ⟨pF, 0, none⟩ = some (.int .i64 0) := by rw [Go.Joins.cell_of_block hF]; rfl
                have e1 : W5.cell? ⟨pF, 1, none⟩ = some (.slice none 0 0) := by rw [Go.Joins.cell_of_block hF]; rfl
                have ef0 := Go.Joins.unfrozen_of_block hF 0
                have ef1 := Go.Joins.unfrozen_of_block hF 1
                have hpl : pF < W5.heap.size := (Array.getElem?_eq_some_iff.1 hF).1
                have FIN : ((W5.setCell ⟨pF, 0, none⟩ (.int .i64 t)).setCell ⟨pF, 1, none⟩ (.slice aD lD cD)).heap[pF]? = some (.cells #[.int .i64 t, .slice aD lD cD] 26 (0, 0)) := blk_set2 hF _ _
                have ROW := World.ownsRow.kept hA (set2 W5 pF (.int .i64 t) (.slice aD lD cD)) (.inr hFA)
                have BLW : Below w1.heap.size w1 ((W5.setCell ⟨pF, 0, none⟩ (.int .i64 t)).setCell ⟨pF, 1, none⟩ (.slice aD lD cD)) := (hB.setCell (p := ⟨pF, 0, none⟩) (by simpa using hpF) _).setCell (p := ⟨pF, 1, none⟩) (by simpa using hpF) _
                have hS' : ((W5.setCell ⟨pF, 0, none⟩ (.int .i64 t)).setCell ⟨pF, 1, none⟩ (.slice aD lD cD)).heap[w.heap.size]? = some (.cells #[.int .i64 t, .slice ao len cap] 26 (0, 0)) := ((set2 W5 pF (.int .i64 t) (.slice aD lD cD)).block w.heap.size (by have := hB.size; omega) (by simp; omega)).trans hHeld
                go_simp
                refine hK.out _ _ hS' (fun hHeld => ?_)
                clear hK K
                try simp only [Act.put, List.setIfInBounds_toArray, List.set_cons_zero, List.set_cons_succ]
                refine wpAnyH_done (by kernel_rfl) ?_ _
                refine NoPanic.normal ?_
                refine hK1 _ _ (Met.intro (hJ1 _ _ ?_))
                (repeat apply Exists.intro)
                refine ⟨?_, rfl⟩
                exact ⟨_, _, _, _, rfl, FIN, ROW, BLW, hpF, hFA⟩
              exact AllReadyH.nil
            exact AllReadyH.nil
          exact AllReadyH.nil
        exact AllReadyH.nil
      exact AllReadyH.nil
    exact AllReadyH.nil
  case rest =>
    obtain ⟨pF, a, l, c, rfl, q1, ROW, BLW, hpF, hne⟩ := hcut
    obtain ⟨g, rfl, rfl, hlc⟩ : ∃ g, a = some ⟨g, 0, none⟩ ∧ l = len + 1 ∧ len + 1 ≤ c := by
      rcases ROW.2 with ⟨e1, h0⟩ | ⟨g, cap', cur, e1, hg, hh, hn, hm, hs, ht⟩
      · omega
      · cases e1; exact ⟨g, rfl, rfl, hn⟩
    have kw := (BLW.block w.heap.size l1).trans k1
    have bs := BLW.size
    have ROW2 := World.ownsRow.kept ROW (grown_set wc pF 1 (.slice (some ⟨g, 0, none⟩) len c)) (.inr hne)
    have S1 : Seq 3 Wr.cells (wc.setCell ⟨pF, 1, none⟩ (.slice (some ⟨g, 0, none⟩) len c)) (some ⟨g, 0, none⟩) (len + 1) c (ws ++ [mark]) := row_seq (by rw [List.length_append, hx, List.flatMap_append, List.flatMap_singleton]; exact ROW2) (fun _ => rfl)
    have S2 := S1.upto3 hx
    have B2 : Below w.heap.size w (wc.setCell ⟨pF, 1, none⟩ (.slice (some ⟨g, 0, none⟩) len c)) := below_on B1 (BLW.setCell (p := ⟨pF, 1, none⟩) (by simpa using hpF) _)
    have q3 : (wc.setCell ⟨pF, 1, none⟩ (.slice (some ⟨g, 0, none⟩) len c)).heap[pF]? = some (.cells #[.int .i64 t, .slice (some ⟨g, 0, none⟩) len c] 26 (0, 0)) := (Go.Joins.block_setCell q1 _).trans rfl
    have q4 : (wc.setCell ⟨pF, 1, none⟩ (.slice (some ⟨g, 0, none⟩) len c)).heap[w.heap.size]? = some (.cells #[.int .i64 t, .slice ao len cap] 26 (0, 0)) := (Below.heap_setCell _ _ _ _ (by simp; omega)).trans kw
    have g1 : wc.cell? ⟨pF, 1, none⟩ = some (.slice (some ⟨g, 0, none⟩) (len + 1) c) := by rw [Go.Joins.cell_of_block q1]; rfl
    have gf := Go.Joins.unfrozen_of_block q1 1
    have m1 : wc.cell? ⟨w.heap.size, 1, none⟩ = some (.slice ao len cap) := by rw [Go.Joins.cell_of_block kw]; rfl
    have hpl : pF < wc.heap.size := (Array.getElem?_eq_some_iff.1 q1).1
    have hc1 : len ≤ c := by omega
    have hc2 : (len : Int) ≤ (c : Int) := by omega
    have i0' : (wc.setCell ⟨pF, 1, none⟩ (.slice (some ⟨g, 0, none⟩) len c)).cell? ⟨pF, 0, none⟩ = some (.int .i64 t) := by rw [Go.Joins.cell_of_block q3]; rfl
    have i1' : (wc.setCell ⟨pF, 1, none⟩ (.slice (some ⟨g, 0, none⟩) len c)).cell? ⟨pF, 1, none⟩ = some (.slice (some ⟨g, 0, none⟩) len c) := by rw [Go.Joins.cell_of_block q3]; rfl
    have hUs : (wc.setCell ⟨pF, 1, none⟩ (.slice (some ⟨g, 0, none⟩) len c)).heap.size = wc.heap.size := by simp
    have HP1 := PutCommit_any t S2
    obtain ⟨LB, eLB⟩ : ∃ L, L = bt (rightC ⟨t, ws⟩) (cb ⟨t, ws⟩) := ⟨_, rfl⟩
    obtain ⟨EB, eEB⟩ : ∃ L, L = er (rightC ⟨t, ws⟩) := ⟨_, rfl⟩
    rw [← eLB, ← eEB] at HP1
    have HP2 : ∀ u : World, Below w.heap.size w u → Calls Try.prog 15 #[.agg #[.int .i64 t, .slice ao len cap]] u fun e w' => ∃ v', e = .returned (.tuple #[v', .int .i64 EB]) ∧ Own w' u.heap.size v' LB ∧ Below u.heap.size u w' := fun u hu => by
      rw [eLB, eEB]
      exact RPutCommit_any t (HS.out.keep hu)
    rw [← eLB] at hbr
    have H1 := hide3 HP1
    have H2 := hide3 HP2
    have HM := hide3 S1
    clear HP1 HP2 eLB eEB ROW ROW2 S1
    go_wp2_with fail
    refine H1.out.mono ?_
    rintro e u1 ⟨v4, rfl, o4, hb4⟩
    have B4 := below_on B2 hb4
    have s4 := hb4.size
    have p3 := (hb4.block pF (by omega)).trans q3
    have p4 := (hb4.block w.heap.size (by omega)).trans q4
    have sq4 := S2.keep hb4
    have SM4 := hide3 (HM.out.keep hb4)
    have d0 : u1.cell? ⟨w.heap.size, 0, none⟩ = some (.int .i64 t) := by rw [Go.Joins.cell_of_block p4]; rfl
    have d1 : u1.cell? ⟨w.heap.size, 1, none⟩ = some (.slice ao len cap) := by rw [Go.Joins.cell_of_block p4]; rfl
    clear H1 S2 HM q1 q3 q4 hb4 i0' i1' g1 gf m1
    go_wp2_with fail
    refine (H2.out u1 B4).mono ?_
    rintro e u2 ⟨v5, rfl, o5, hb5⟩
    have B5 := below_on B4 hb5
    have s5 := hb5.size
    have r3 := (hb5.block pF (by omega)).trans p3
    have r4 := (hb5.block w.heap.size (by omega)).trans p4
    have o45 := o4.keep hb5
    have SM5 := hide3 (SM4.out.keep hb5)
    have f0 : u2.cell? ⟨w.heap.size, 0, none⟩ = some (.int .i64 t) := by rw [Go.Joins.cell_of_block r4]; rfl
    have f1 : u2.cell? ⟨w.heap.size, 1, none⟩ = some (.slice ao len cap) := by rw [Go.Joins.cell_of_block r4]; rfl
    have j0 : u2.cell? ⟨pF, 0, none⟩ = some (.int .i64 t) := by rw [Go.Joins.cell_of_block r3]; rfl
    have j1 : u2.cell? ⟨pF, 1, none⟩ = some (.slice (some ⟨g, 0, none⟩) len c) := by rw [Go.Joins.cell_of_block r3]; rfl
    have HSM := hide3 (sameCommit_any t (sq4.keep hb5) (HS.out.keep B5))
    obtain ⟨a6, n6, p6, rfl, s6, _⟩ := o45.sl' hbr
    obtain ⟨a7, n7, p7, rfl, s7, _⟩ := o5.sl' hbr
    have t6 := s6.str (P := Try.prog) 29 Try.underlying29 Try.underlying5 Try.underlying9
    have t7 := s7.str (P := Try.prog) 29 Try.underlying29 Try.underlying5 Try.underlying9
    clear H2 B4 p3 p4 d0 d1 o4 sq4 SM4 o45 o5 s6 s7
    go_wp2_with fail
    refine HSM.out.mono ?_
    rintro e u3 ⟨rfl, hb6⟩
    have B6 := below_on B5 hb6
    have s6 := hb6.size
    have y4 := (hb6.block w.heap.size (by omega)).trans r4
    have z1 : u3.cell? ⟨w.heap.size, 1, none⟩ = some (.slice ao len cap) := by rw [Go.Joins.cell_of_block y4]; rfl
    have SM6 := SM5.out.keep hb6
    obtain ⟨bM, oM, eM, -, hM⟩ := SM6.three (by omega)
    cases eM
    obtain ⟨zk, -, -⟩ := hM len mark _ _ _ (by rw [← hx]; simp) rfl
    have hlt1 : len < len + 1 := by omega
    have hlt2 : (len : Int) < ((len + 1 : Nat) : Int) := by omega
    have hlt3 : (len : Int) < (len : Int) + 1 := by omega
    have hle0 : (0 : Int) ≤ (len : Int) := by omega
    simp only [mark, Nat.zero_add] at zk
    clear HSM B5 r3 r4 f0 f1 j0 j1 t6 t7 hb6 SM5 SM6 hM y4
    go_wp2
    go_ret
    exact ⟨rfl, B6⟩
end
end Go.Proofs.Yteihabdldiopeaa
