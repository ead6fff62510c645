/-
  Append.
-/
import Derived.Test.YtolaagbdnchhiaaDisk4
set_option linter.unusedVariables false
set_option linter.unusedSimpArgs false
namespace Go.Proofs.Ytolaagbdnchhiaa
open Go.RowKit Go.Maps

/-- 'append(v, x...)', v an own row, x a slice of bytes; and where the new row lies. -/
theorem wpList_append_sl_at {P : Program} {w : World} {ops : Array Oper} {rest : List Oper} {o : Oper} {a : Act} {Q : Exit → Act → World → Prop} (hgd : o.guard = none) (s x : Operand) (t : TypeId)
    (ho : o.op = .call { callee := .builtin .append, args := #[s, x], argTypes := #[t, t] })
    (base : Nat) (i : TypeInfo) (ht : P.underlying t = some (.slice 5)) (hi : P.info? 5 = some i) (hz : i.zero = some (.int .u8 0)) (hsize : i.size = 1) (hby : i.bytes = 1)
    (v : Value) (xs : List Int) (hs : a.eval s = v) (hown : Own w base v xs) (ao : Option Addr) (len cap : Nat) (ys : List Int) (hx : a.eval x = .slice ao len cap) (hsl : Sl w ao len cap ys)
    (hlen : xs.length + len ≤ 140737488355328) (hbase : base ≤ w.heap.size)
    (h : ∀ v' w', Own w' base v' (xs ++ ys) → w.grownBy w' v.ownBlock → (v'.ownBlock = v.ownBlock ∨ v'.ownBlock = some w.heap.size) → wpList P ops Q rest (a.put o.dst v') w') : wpList P ops Q (o :: rest) a w := by
  obtain ⟨h1, h2, h3, h4, h5, h6⟩ := hsl
  cases ao with
  | none =>
    obtain ⟨rfl, rfl⟩ := h5 rfl
    obtain rfl : ys = [] := List.eq_nil_of_length_eq_zero h1
    exact wpList_append_own_none hgd s x t ho base 5 i 1 ht hi v _ _ hs hown hx (h v w (by simpa using hown) (World.grownBy.refl _ _) (.inl rfl))
  | some ad =>
    refine wpList_append_own_at w hgd s x t ho base 5 i (.int .u8 0) 1 1 ht hi hz hsize hby rfl (by decide) v _ _ hs hown ad len cap (bc ys) hx (by rw [bc_length]; omega) ?_ (bc_one ys) (by unfold maxLen; omega) (by omega) hbase ?_
    · intro j u hj
      obtain ⟨hj1, rfl⟩ := bc_get ys j u hj
      obtain ⟨b, off, e, _, hc⟩ := h6 (by omega)
      obtain rfl : ad = ⟨b, off, none⟩ := by simpa using e
      rw [addr_add]
      exact hc j (by omega)
    · intro v' w' ho' hg _ hb
      refine h v' w' ?_ hg hb
      refine Own.of_bc (n := xs.length + len) ?_ (by simp; omega)
      rw [bc_append]
      exact ho'

set_option maxHeartbeats 1000000 in
theorem room_new {w : World} {d : Nat} {mb : Option Nat} {syn since : Value} {ops cutAt : Int} {cuts gone : Bool} {D : DataW Value} (h : Dk w d (.map mb) syn since ops cutAt cuts gone) (hd : Dir w mb D) (n : Nat) (hn : n ≤ maxLen) :
    Calls Try.prog 48 #[.pointer (some ⟨d, 0, none⟩), .pointer none, .int .i64 (n : Int)] w fun e w' => e = .returned (.bool (decide (n ≤ 262144) && decide (Maps.size D < 64))) ∧ w' = w := by
  unfold maxLen at hn
  obtain ⟨c0, c1, c2, c3, c4, c5, c6⟩ := h.cells
  have hlen := hd.len 3
  by_cases a : n ≤ 262144
  · have a' : (n : Int) ≤ 262144 := by omega
    have e1 : decide (n ≤ 262144) = true := by simpa using a
    have e2 : decide ((Maps.size D : Int) < 64) = decide (Maps.size D < 64) := by rw [decide_eq_decide]; omega
    rw [e1]
    go_enter Try.func48, Try.ntmps48
    go_wp2
    go_ret
    exact ⟨ret_bool (by simp), rfl⟩
  · have a' : ¬ (n : Int) ≤ 262144 := by omega
    have e1 : decide (n ≤ 262144) = false := by simpa using a
    rw [e1]
    go_enter Try.func48, Try.ntmps48
    go_wp2
    go_ret
    exact ⟨rfl, rfl⟩

set_option maxHeartbeats 1000000 in
theorem room_old {w : World} {p : Value} {f : Nat} {ao : Option Addr} {l c sy : Nat} (h : Fl w f (.slice ao l c) sy) (hl : l ≤ maxLen) (n : Nat) (hn : n ≤ maxLen) :
    Calls Try.prog 48 #[p, .pointer (some ⟨f, 0, none⟩), .int .i64 (n : Int)] w fun e w' => e = .returned (.bool (decide (n + l ≤ 262144))) ∧ w' = w := by
  unfold maxLen at hn hl
  obtain ⟨c0, c1⟩ := h.cells
  go_enter Try.func48, Try.ntmps48
  go_wp2
  go_ret
  exact ⟨ret_bool (by rw [decide_eq_decide]; omega), rfl⟩

set_option maxHeartbeats 1000000 in
theorem append_bad {w : World} {d : Nat} {now syn since : Value} {ops cutAt : Int} {cuts gone : Bool} (h : Dk w d now syn since ops cutAt cuts gone) (hon : On ops cutAt cuts gone) (s : ByteArray) (hs : s.size ≤ maxLen) (hn : isName s = false) (bv : Value) :
    Calls Try.prog 18 #[.pointer (some ⟨d, 0, none⟩), .string s, bv] w fun e w' => e = .returned (.int .i64 20) ∧ Below w.heap.size w w' := by
  have hlt := h.lt
  have h1 : Dk (w.alloc (.cells #[.string s] 9)) d now syn since ops cutAt cuts gone := h.same (Below.heap_alloc _ _ d hlt)
  have hb1 : Below w.heap.size w (w.alloc (.cells #[.string s] 9)) := (Below.refl _ _).alloc (Nat.le_refl _) _
  have hst := start_one h1 hon w.heap.size 1 s hs (by simp) 20 (by simp [hn])
  go_enter Try.func18, Try.ntmps18
  go_wp2_with fail
  refine hst.mono ?_
  rintro e w' ⟨rfl, q, rfl⟩
  go_wp2
  go_ret
  exact ⟨rfl, hb1.trans ⟨rfl, rfl, rfl, Nat.le_refl _, fun _ _ => rfl⟩⟩

theorem Sl.fr {F : Nat → Prop} {w w' : World} {ao : Option Addr} {len cap : Nat} {xs : List Int} (h : Sl w ao len cap xs) (hf : Fr F w w') (hn : 0 < len → ∀ b off, ao = some ⟨b, off, none⟩ → ¬ F b) : Sl w' ao len cap xs := by
  obtain ⟨h1, h2, h3, h4, h5, h6⟩ := h
  refine ⟨h1, h2, h3, h4, h5, fun hl => ?_⟩
  obtain ⟨b, off, e, hlt, hc⟩ := h6 hl
  exact ⟨b, off, e, Nat.lt_of_lt_of_le hlt hf.size, fun i hi => (hf.cell (p := ⟨b, off + i, none⟩) hlt (hn hl b off e)).trans (hc i hi)⟩

set_option maxHeartbeats 4000000 in
set_option maxRecDepth 100000 in
theorem append_new {w : World} {d B k : Nat} {mb : Option Nat} {syn sv : Value} {ops cutAt : Int} {cuts gone : Bool} {D : DataW Value} {cs : List Value}
    (h : Dk w d (.map mb) syn sv ops cutAt cuts gone) (hon : On ops cutAt cuts gone) (hd : Dir w mb D) (hrow : w.ownsRow B 83 1 sv k cs) (hB : B ≤ w.heap.size) (hk : k < 1000000) (hD : Maps.size D < 64) (ho0 : 0 ≤ ops) (hops : ops < 65536)
    (s : ByteArray) (hn : isName s = true) (hl : Leads D s none) (ao : Option Addr) (len cap : Nat) (xs : List Int) (hx : Sl w ao len cap xs) (hxl : len ≤ 262144)
    (hxa : 0 < len → ∀ b off, ao = some ⟨b, off, none⟩ → b ≠ d ∧ mb ≠ some b ∧ sv.ownBlock ≠ some b) :
    Calls Try.prog 18 #[.pointer (some ⟨d, 0, none⟩), .string s, .slice ao len cap] w fun e w' =>
      ∃ f nb fb b sv' fv, e = .returned (.int .i64 0) ∧ w.heap.size ≤ f ∧ w.heap.size ≤ nb ∧ w.heap.size ≤ fb ∧ Fl w' f fv 0 ∧ Own w' B fv xs ∧ (∀ j, fv.ownBlock = some j → w.heap.size ≤ j) ∧ Box w' nb (.string s) 9 ∧ Box w' fb (.pointer (some ⟨f, 0, none⟩)) 77 ∧
        (mb = some b ∨ mb = none ∧ w.heap.size ≤ b) ∧ Dk w' d (.map (some b)) syn sv' (ops + 1) cutAt cuts gone ∧ w'.ownsMap Try.prog 9 RV b (Maps.size D + 1) ((dn D).put (.string s.data.toList) (.held (.pointer (some ⟨f, 0, none⟩)))) ∧
        w'.ownsRow B 83 1 sv' (k + 1) (cs ++ [mkCl fb nb]) ∧ (sv'.ownBlock = sv.ownBlock ∨ ∃ j, sv'.ownBlock = some j ∧ w.heap.size ≤ j) ∧ Fr (fun j => j = d ∨ mb = some j ∨ sv.ownBlock = some j) w w' := by
  have hlt := h.lt
  have hz := isName_size hn
  have hs : s.size ≤ maxLen := by unfold maxLen; omega
  have h1 : Dk (w.alloc (.cells #[.string s] 9)) d (.map mb) syn sv ops cutAt cuts gone := h.same (Below.heap_alloc _ _ d hlt)
  have hst := start_one h1 hon w.heap.size 1 s hs (by simp) 0 (by simp [hn])
  have hlen : len ≤ maxLen := by unfold maxLen; omega
  obtain ⟨i0, hi, hz0, hz1, hz2⟩ := info_parts Try.info5
  have hjr : ∀ j, sv.ownBlock = some j → j < w.heap.size := fun j e => by
    obtain ⟨_, _, _, hl⟩ := row_block hrow e
    exact hl
  have hjm : ∀ j, mb = some j → j < w.heap.size := fun j e => by
    rcases hd with ⟨rfl, _⟩ | ⟨b, n, rfl, ho⟩
    · cases e
    · cases e; exact ho.lt
  go_enter Try.func18, Try.ntmps18
  go_wp2_with fail
  refine hst.mono ?_
  rintro e w' ⟨rfl, q, rfl⟩
  have b1 : Below w.heap.size w ((w.alloc (.cells #[.string s] 9)).drewN q) := ((Below.refl _ _).alloc (Nat.le_refl _) _).trans ⟨rfl, rfl, rfl, Nat.le_refl _, fun _ _ => rfl⟩
  generalize (w.alloc (.cells #[.string s] 9)).drewN q = W at b1 ⊢
  clear hst h1
  have h1 : Dk W d (.map mb) syn sv ops cutAt cuts gone := h.same (b1.block d hlt)
  have d1 : Dir W mb D := Dir.same hd fun j e => b1.block j (hjm j e)
  have r1 : W.ownsRow B 83 1 sv k cs := row_same hrow fun j e => b1.block j (hjr j e)
  have x1 := hx.below b1
  have hlook := d1.look s hs none hl
  have hworn := worn_any h1
  have hw0 : decide (65536 ≤ ops) = false := by simp; omega
  rw [hw0] at hworn
  have hroom := room_new h1 d1 len hlen
  have hr0 : (decide (len ≤ 262144) && decide (Maps.size D < 64)) = true := by simp; omega
  rw [hr0] at hroom
  have hs1 := b1.size
  have hcr := create_any h1 d1 r1 (by omega) hk (by omega) s hz.1 (by omega)
  have hl63 : (len : Int) ≤ 262144 := by omega
  obtain ⟨c0, c1, c2, c3, c4, c5, c6⟩ := h1.cells
  clear hw0 hr0
  go_wp2_with (first
    | (go_at_call 47; refine hworn.mono ?_; rintro e w' ⟨rfl, rfl⟩)
    | (go_at_call 48; refine hroom.mono ?_; rintro e w' ⟨rfl, rfl⟩)
    | fail)
  refine hcr.mono ?_
  rintro e w2 ⟨f, nb, fb, b, sv', rfl, g1, g2, g3, f2, n2, p2, hb, h2, o2, r2, v2, F2⟩
  have x2 : Sl w2 ao len cap xs := x1.fr F2 (fun h0 b off e => by
    obtain ⟨a1, a2, a3⟩ := hxa h0 b off e
    rintro (h | h | h)
    · exact a1 h
    · exact a2 h
    · exact a3 h)
  have cf := f2.cells.1
  have hs2 := F2.size
  have hfd : f ≠ d := by omega
  have hdf : d ≠ f := by omega
  clear hcr hroom hworn hlook c0 c1 c2 c3 c4 c5 c6 x1 d1 r1 h1
  go_wp2_with (first
    | (at_builtin
       refine wpList_append_sl_at rfl _ _ 32 rfl B i0 Try.underlying32 hi hz0 hz1 hz2 (.slice none 0 0) [] rfl (World.ownsRow_nil _ _ _ _) ao len cap xs rfl x2 (by simp; omega) (by omega) ?_
       intro fv w3 own3 gr3 bl3
       have f3 : Fl w3 f (.slice none 0 0) 0 := (gr3.block f f2.lt (by simp [Value.ownBlock])).trans f2
       have cf3 := f3.cells.1
       have zf3 := f3.free 0
       have h3 : Dk w3 d (.map (some b)) syn sv' ops cutAt cuts gone := h2.same (gr3.block d h2.lt (by simp [Value.ownBlock]))
       have k3 := h3.cells.2.2.2.1
       have u3 := h3.free 3
       rw [List.nil_append] at own3
       obtain ⟨ao3, l3, cap3, rfl, sl3, ne3⟩ := own3.sl' x2.2.2.2.1
       go_frame)
    | go_in)
  go_ret
  -- behind the stores
  have S3 := gr3.size
  have hf4 : Fl (w3.setCell ⟨f, 0, none⟩ (.slice ao3 l3 cap3)) f (.slice ao3 l3 cap3) 0 := f3.set0 _
  have hd4 : Dk (w3.setCell ⟨f, 0, none⟩ (.slice ao3 l3 cap3)) d (.map (some b)) syn sv' ops cutAt cuts gone := h3.same (Below.heap_setCell _ _ _ _ (by simpa using hdf))
  have hd5 := hd4.set.2.2.2.1 (ops + 1)
  have keep : ∀ j, j < w2.heap.size → j ≠ f → j ≠ d → ((w3.setCell ⟨f, 0, none⟩ (.slice ao3 l3 cap3)).setCell ⟨d, 3, none⟩ (.int .i64 (ops + 1))).heap[j]? = w2.heap[j]? := fun j hj e1 e2 =>
    (Below.heap_setCell _ _ _ _ (by simpa using e2)).trans ((Below.heap_setCell _ _ _ _ (by simpa using e1)).trans (gr3.block j hj (by simp [Value.ownBlock])))
  have keep3 : ∀ j, j ≠ f → j ≠ d → ((w3.setCell ⟨f, 0, none⟩ (.slice ao3 l3 cap3)).setCell ⟨d, 3, none⟩ (.int .i64 (ops + 1))).heap[j]? = w3.heap[j]? := fun j e1 e2 =>
    (Below.heap_setCell _ _ _ _ (by simpa using e2)).trans (Below.heap_setCell _ _ _ _ (by simpa using e1))
  have hnf : nb ≠ f := fun e => by unfold Box at n2; unfold Fl at f2; rw [e, f2] at n2; simp at n2
  have hpf : fb ≠ f := fun e => by unfold Box at p2; unfold Fl at f2; rw [e, f2] at p2; simp at p2
  have hof : f ≠ b := own_not_cells o2 f2
  have hod : d ≠ b := own_not_cells o2 h2
  have hrf : ∀ j, sv'.ownBlock = some j → j ≠ f := fun j e => by
    obtain ⟨cur, hh, _⟩ := row_block r2 e
    rintro rfl
    unfold Fl at f2
    rw [f2] at hh
    simp at hh
  have hrl : ∀ j, sv'.ownBlock = some j → j < w2.heap.size := fun j e => by
    obtain ⟨_, _, _, hl⟩ := row_block r2 e
    exact hl
  have hsl : ∀ j, (Value.slice ao3 l3 cap3).ownBlock = some j → w2.heap.size ≤ j := fun j e => by
    rcases bl3 with h | h
    · rw [h] at e; simp [Value.ownBlock] at e
    · rw [h] at e; cases e; exact Nat.le_refl _
  have f2l := f2.lt
  have h2l := h2.lt
  refine ⟨f, nb, fb, b, sv', .slice ao3 l3 cap3, rfl, by omega, by omega, by omega, (Below.heap_setCell _ _ _ _ (by simpa using hfd)).trans hf4, ?_, ?_, (keep nb n2.lt hnf (by omega)).trans n2, (keep fb p2.lt hpf (by omega)).trans p2, ?_, hd5, ?_, ?_, ?_, ?_⟩
  · refine row_same own3 fun j e => keep3 j ?_ ?_
    · have := hsl j e; omega
    · have := hsl j e; omega
  · intro j e
    have := hsl j e
    omega
  · rcases hb with e | ⟨e, hl⟩
    · exact .inl e
    · exact .inr ⟨e, by omega⟩
  · obtain ⟨es, clock, hb', rest⟩ := o2
    exact ⟨es, clock, (keep b (Array.getElem?_eq_some_iff.1 hb').1 hof.symm hod.symm).trans hb', rest⟩
  · exact row_same r2 fun j e => keep j (hrl j e) (hrf j e) (h2.ne_row r2 (by decide) e)
  · rcases v2 with e | ⟨j, e, hl⟩
    · exact .inl e
    · exact .inr ⟨j, e, by omega⟩
  · have G1 : Fr (fun j => j = d ∨ mb = some j ∨ sv.ownBlock = some j) w w2 := (Fr.below b1).trans F2 (fun j e => .inl e)
    have G2 : Fr (fun j => j = d ∨ mb = some j ∨ sv.ownBlock = some j) w w3 := G1.trans (G := fun _ => False) (Fr.grown gr3 (fun j e => by simp [Value.ownBlock] at e)) (fun _ e => e.elim)
    exact (G2.setCell (.inr (by show w.heap.size ≤ f; omega)) _).setCell (.inl (.inl rfl)) _
end Go.Proofs.Ytolaagbdnchhiaa
