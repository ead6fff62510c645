/-
  The chains: a cell is taken, given back, put into a chain; which are spare.
-/
import Derived.Test.YtbpihkojmbfccaaDoorHa1
import Derived.Sort.OwnSortedInts
set_option linter.unusedVariables false
set_option linter.unusedSimpArgs false
namespace Go.Proofs.YtbpihkojmbfccaaDoor
open Go.RowKit Go.Maps Go.Sort Go.Shelf Go.Lib

theorem row_short {W : World} {base g n cap k : Nat} {e : TypeId} {xs : List Value} (h : W.ownsRow base e 1 (.slice (some ⟨g, 0, none⟩) n cap) n xs) (hk : k ≤ n) : W.ownsRow base e 1 (.slice (some ⟨g, 0, none⟩) k cap) k (xs.take k) := by
  obtain ⟨h1, h2⟩ := h
  refine ⟨by rw [List.length_take]; omega, ?_⟩
  rcases h2 with ⟨e0, _⟩ | ⟨g', cap', cur, ev, hb, hh, c1, c2, c3, c4⟩
  · cases e0
  · cases ev
    refine .inr ⟨g, cap, cur, rfl, hb, hh, by omega, c2, c3, ?_⟩
    rw [← c4, List.take_take]
    congr 1
    omega

/-- The closure of noMoreSpare, in whatever world holds the cell's number in the box. -/
theorem more_gives (c x : Int) (B : Nat) (W : World) (hc : W.cell? ⟨B, 0, none⟩ = some (.int .i64 c)) :
    FnGives Tryd.prog 70 #[.pointer (some ⟨B, 0, none⟩)] #[.int .i64 x] (.bool (x == c)) W := by
  show Calls Tryd.prog 70 #[.int .i64 x, .pointer (some ⟨B, 0, none⟩)] W _
  go_enter Tryd.func70, Tryd.ntmps70
  go_wp2
  go_ret
  exact ⟨rfl, 0, rfl⟩
theorem more_pred (c : Int) (B : Nat) (w : World) (hB : B < w.heap.size) (hcell : w.cell? ⟨B, 0, none⟩ = some (.int .i64 c)) :
    PredAt Tryd.prog 70 #[.pointer (some ⟨B, 0, none⟩)] (Value.int .i64) (fun x => x == c) w :=
  fun W x hb => more_gives c x B W ((hb.cell (p := ⟨B, 0, none⟩) hB).trans hcell)
theorem more_over (c : Int) (B blk off size : Nat) (w : World) (hB : B < w.heap.size) (hne : B ≠ blk) (hcell : w.cell? ⟨B, 0, none⟩ = some (.int .i64 c)) :
    PredOver Tryd.prog 70 #[.pointer (some ⟨B, 0, none⟩)] (Value.int .i64) (fun x => x == c) blk off size w :=
  fun n os dk x _ => more_gives c x B _ (by
    unfold sortWorld
    rw [cell?_grow _ _ _ (by show B < (putRow _ _ _ _ _).heap.size; rw [size_putRow]; exact hB), cell?_putRow_other _ _ blk off _ _ (Or.inl hne)]
    exact hcell)

theorem filter_cast (l : List Nat) (c : Nat) : (l.map fun x : Nat => (x : Int)).filter (fun x => !(x == (c : Int))) = (l.filter fun x => !(x == c)).map fun x : Nat => (x : Int) := by
  induction l with
  | nil => rfl
  | cons x xs ih =>
    by_cases e : x = c
    · subst e
      rw [List.map_cons, List.filter_cons_of_neg (by simp), List.filter_cons_of_neg (by simp), ih]
    · have e2 : ¬ (x : Int) = (c : Int) := by omega
      rw [List.map_cons, List.filter_cons_of_pos (by simpa using e2), List.filter_cons_of_pos (by simpa using e), ih, List.map_cons]

/-- slices.DeleteFunc of a row of numbers, with that closure. -/
theorem del_any {w : World} {base : Nat} {v : Value} {l : List Nat} (h : Hr w base v l) (hl : 0 < l.length) (hl2 : l.length ≤ 1000000) (c B : Nat) (hB : B < w.heap.size) (hne : v.ownBlock ≠ some B) (hcell : w.cell? ⟨B, 0, none⟩ = some (.int .i64 (c : Int))) :
    Calls Tryd.prog 69 #[v, .func (.func 70) #[] #[.pointer (some ⟨B, 0, none⟩)]] w fun e w' => ∃ v', e = .returned v' ∧ Hr w' base v' (l.filter fun x => !(x == c)) ∧ v'.ownBlock = v.ownBlock ∧ w.grownBy w' v.ownBlock := by
  rcases h.2 with ⟨rfl, h0⟩ | ⟨g, cap, cur, rfl, hg, hh, hn, hm, hs, ht⟩
  · omega
  have ht2 : cur.toList.take (l.map fun x : Nat => (x : Int)).length = (l.map fun x : Nat => (x : Int)).map (Value.int .i64) := by
    rw [List.length_map]
    rw [Nat.mul_one] at ht
    rw [ht]
    simp [nv]
  have eg : ∀ args w, (callFunc 70 args).run Tryd.prog w = .ok (.enter 70 args) w := enters_of Tryd.func70 (by kernel_rfl) rfl
  have hne2 : B ≠ g := fun e => hne (by rw [e]; rfl)
  have hcon := AnyE.slices_DeleteFunc delL (Value.int .i64) (fun _ => rfl) (fun x => x == (c : Int)) 70 #[.pointer (some ⟨B, 0, none⟩)] eg 0 Tryd.zeroValue3 g 0 cap (l.map fun x : Nat => (x : Int)).toArray w
    (more_pred c B w hB hcell) (more_over c B g 0 _ w hB hne2 hcell) (holds_of_blockI hh ht2) (by simp; omega) (by simpa using hn)
  change Calls Tryd.prog 69 _ _ _ at hcon
  have e1 : (l.map fun x : Nat => (x : Int)).toArray.size = l.length := by simp
  rw [e1] at hcon
  refine hcon.mono ?_
  rintro e w' ⟨rfl, q, rfl⟩
  simp only [List.toList_toArray, filter_cast]
  obtain ⟨r, hr⟩ : ∃ r, r = l.filter fun x => !(x == c) := ⟨_, rfl⟩
  have hrl : r.length ≤ l.length := by rw [hr]; exact List.length_filter_le _ _
  rw [← hr, List.length_map]
  obtain ⟨ts, hts⟩ : ∃ ts : List Int, ts = (r.map fun x : Nat => (x : Int)) ++ List.replicate (l.length - r.length) 0 := ⟨_, rfl⟩
  rw [← hts]
  have htl : ts.length = (l.map fun x : Nat => (x : Int)).length := by rw [hts]; simp; omega
  have := ownsRow_sortedI (n := q) (os := #[]) (ts := ts) (ss := (l.map fun x : Nat => (x : Int))) htl hg hh (by simpa using hn) hm hs
  rw [grow_empty, List.length_map] at this
  refine ⟨_, rfl, ?_, rfl, ?_⟩
  · have h3 := row_short this hrl
    have e4 : (ts.map (Value.int .i64)).take r.length = r.map nv := by
      rw [hts, List.map_append, List.take_append_of_le_length (by simp), List.take_of_length_le (by simp)]
      simp [nv]
    rw [e4] at h3
    exact h3
  · have := grownBy_sortedI (w := w) (g := g) (n := q) (os := #[]) ts.toArray
    rw [grow_empty] at this
    exact this

section
variable {w w' : World} {K : Nat → Prop} {tb d g hb hc mb : Nat} {sv : Value} {D : DataW Value} {T : List Bool} {N : List Int} {m : Int} {F : List Nat} {s : Tb}

/-- The spare cells are others: a new row, in its own block or a new one. -/
theorem Hm.spare {s' : Tb} {sv' : Value} {w1 w2 : World} (h : Hm w K tb d g hb hc mb sv D T N m F s) (e1 : s'.hd = s.hd) (e2 : s'.ch = s.ch) (hF : Fr (fun j => sv.ownBlock = some j) w w2)
    (hr : Hr w2 0 sv' s'.sp) (ho : ∀ j, sv'.ownBlock = some j → sv.ownBlock = some j ∨ w.heap.size ≤ j) (hw : w1 = w2.setCell ⟨tb, 3, none⟩ sv') :
    Hm w1 (fun j => K j ∨ sv'.ownBlock = some j) tb d g hb hc mb sv' D T N m F s' ∧ Fr K w w1 := by
  obtain ⟨⟨n1, n2, n3, n4, n5, n6, n7, n8, n9, n10⟩, n11⟩ := h.ne
  have hlt := h.tk.lt
  have hsz := hF.size
  have hF2 : Fr (fun j => j = tb) w2 w1 := by rw [hw]; exact Fr.setCell (p := ⟨tb, 3, none⟩) (Fr.refl (fun j => j = tb) w2) (.inl rfl) _
  have hF3 : Fr (fun j => j = tb ∨ sv.ownBlock = some j) w w1 := (hF.mono (G := fun j => j = tb ∨ sv.ownBlock = some j) (fun j _ e => .inr e)).trans hF2 (fun j e => .inl (.inl e))
  have hno : ∀ j, sv'.ownBlock = some j → j ≠ tb ∧ j ≠ 0 ∧ j ≠ hb := fun j e => by
    rcases ho j e with e3 | e3
    · have := n11 j e3
      exact ⟨this.1, fun e4 => h.k0 (h.kk 0 (by subst e4; simp [e3])), this.2.2.2.1⟩
    · have h5 := h.kl hb (h.kk hb (by simp))
      exact ⟨by omega, by omega, by omega⟩
  have q1 : ∀ j, j < w.heap.size → j ≠ tb → sv.ownBlock ≠ some j → w1.heap[j]? = w.heap[j]? := fun j hj a b => hF3.block j hj (by rintro (e | e); exact a e; exact b e)
  have eall : s'.all = s.all := by unfold Tb.all; rw [e2]
  have k5 : ∀ j, (j = tb ∨ j = d ∨ j = g ∨ j = hb ∨ j = mb ∨ sv.ownBlock = some j) → K j := h.kk
  refine ⟨⟨h.aw.same (q1 d h.aw.ab.lt (Ne.symm n1) (fun e => (n11 d e).2.1 rfl)) (q1 g h.aw.nb.lt (Ne.symm n2) (fun e => (n11 g e).2.2.1 rfl)), ?_, ?_, ?_, ?_, hrow_fr hr hF2 (fun j e e3 => (hno j e).1 e3), fun e => (hno hb e).2.2 rfl, h.tab.fr hF3 ?_, ?_, ?_, ?_⟩, hF3.mono ?_⟩
  · rw [e1, hw]
    exact (h.tk.same (hF.block tb hlt (fun e => (n11 tb e).1 rfl))).set sv'
  · rw [e1]
    exact hrow_fr h.hd hF3 (fun j e => by cases e; rintro (e | e); exact n3 e.symm; exact (n11 hb e).2.2.2.1 rfl)
  · rw [eall]
    exact own_fr h.mp hF3 (by rintro (e | e); exact n4 e.symm; exact (n11 mb e).2.2.2.2 rfl)
  · rw [eall]; exact h.md
  · rintro (e | e)
    · exact h.k0 (k5 0 (by simp [e]))
    · exact h.k0 (k5 0 (by simp [e]))
  · rintro (e | e)
    · exact h.k0 e
    · exact (hno 0 e).2.1 rfl
  · rintro j (e | e | e | e | e | e)
    · exact .inl (k5 j (by simp [e]))
    · exact .inl (k5 j (by simp [e]))
    · exact .inl (k5 j (by simp [e]))
    · exact .inl (k5 j (by simp [e]))
    · exact .inl (k5 j (by simp [e]))
    · exact .inr e
  · rintro j (e | e)
    · exact Nat.lt_of_lt_of_le (h.kl j e) hF3.size
    · have := (World.ownsRow.lt hr j e).2
      have := hF2.size
      omega
  · rintro j hj (e | e)
    · exact k5 j (by simp [e])
    · exact k5 j (by simp [e])

set_option maxRecDepth 100000 in
set_option maxHeartbeats 2000000 in
/-- noMoreSpare: a cell is not spare any more. -/
theorem Hm.noMore (h : Hm w K tb d g hb hc mb sv D T N m F s) {c : Nat} (hc1 : c ∈ s.sp) (hl2 : s.sp.length ≤ 1000000) :
    Calls Tryd.prog 51 #[.pointer (some ⟨tb, 0, none⟩), .int .i64 (c : Int)] w fun e w' => e = .returned (.tuple #[]) ∧ ∃ sv', Hm w' (fun j => K j ∨ sv'.ownBlock = some j) tb d g hb hc mb sv' D T N m F { s with sp := s.sp.filter fun x => !(x == c) } ∧ (∀ j, sv'.ownBlock = some j → K j) ∧ Fr K w w' := by
  obtain ⟨ao, cap, e1⟩ := h.sp.form
  subst e1
  have hlt := h.tk.lt
  obtain ⟨w1, hw1⟩ : ∃ x, x = w.alloc (.cells #[.int .i64 (c : Int)] 3) := ⟨_, rfl⟩
  have hb1 : w1.heap[w.heap.size]? = some (.cells #[.int .i64 (c : Int)] 3 (0, 0)) := by rw [hw1]; exact heap_alloc_new w _
  have hF1 : Fr (fun _ => False) w w1 := by rw [hw1]; exact (Fr.refl _ w).alloc _
  have h1 := h.keep hF1 (fun _ _ e => e) (fun e => e)
  have hsz : w1.heap.size = w.heap.size + 1 := by rw [hw1]; simp
  obtain ⟨c0, c1, c2, c3⟩ := h1.tk.cells
  have f3 := h1.tk.free 3
  have hcell : w1.cell? ⟨w.heap.size, 0, none⟩ = some (.int .i64 (c : Int)) := by rw [Go.Joins.cell_of_block hb1]; rfl
  have hl : 0 < s.sp.length := List.length_pos_of_mem hc1
  have hd := del_any h1.sp hl hl2 c w.heap.size (by omega) (fun e => by have := h.kl _ (h.kk w.heap.size (by simp [e])); omega) hcell
  have HD := hide2 hd
  have H1 := hide2 h1
  have H := hide2 h
  have hmf := made_func
  have hlt1 : tb < w1.heap.size := by omega
  clear hd h1 h hcell hl
  have HSZ := hide2 hsz
  have HB1 := hide2 hb1
  clear hsz hb1
  subst hw1
  go_enter Tryd.func51, Tryd.ntmps51
  go_wp2_with fail
  refine HD.out.mono ?_
  rintro e w2 ⟨v', rfl, hr, ho, hg⟩
  clear HD
  have hF2 : Fr (fun j => (Value.slice ao s.sp.length cap).ownBlock = some j) (w.alloc (.cells #[.int .i64 (c : Int)] 3)) w2 := Fr.grown hg (fun j e => e)
  have hne := H1.out.ne.2
  have t2 := H1.out.tk.same (hF2.block tb hlt1 (fun e => (hne tb e).1 rfl))
  have f4 := t2.free 3
  have c4 := t2.cells.2.2.2
  have hlt2 : tb < w2.heap.size := t2.lt
  have hX := H1.out.spare (s' := { s with sp := s.sp.filter fun x => !(x == c) }) rfl rfl hF2 hr (fun j e => .inl (by rw [← ho]; exact e)) rfl
  have HX := hide2 hX
  have HO := hide2 ho
  have HR := hide2 hr
  clear hX c0 c1 c2 c3 f3 hr ho hg t2 hne
  obtain ⟨ao', cap', e'⟩ := HR.out.form
  subst e'
  go_wp2
  go_end0
  exact ⟨rfl, _, HX.out.1, fun j e => H.out.kk j (by rw [← HO.out]; simp [e]), hF1.mono (G := K) (fun _ _ e => e.elim) |>.trans HX.out.2 (fun j e => .inl e)⟩

set_option maxRecDepth 100000 in
set_option maxHeartbeats 2000000 in
/-- take: another spare cell. -/
theorem Hm.take (h : Hm w K tb d g hb hc mb sv D T N m F s) {c : Nat} (hc1 : T.getD c true = false) (hmin : ∀ j, j < c → T.getD j true = true) (hl2 : s.sp.length ≤ 1000000) :
    Calls Tryd.prog 48 #[.pointer (some ⟨tb, 0, none⟩)] w fun e w' => e = .returned (.int .i64 (c : Int)) ∧ ∃ sv', Hm w' (fun j => K j ∨ sv'.ownBlock = some j) tb d g hb hc mb sv' D (T.set c true) (N.set c 0) m (flip F c) { s with sp := s.sp ++ [c] } ∧ (∀ j, sv'.ownBlock = some j → K j ∨ w.heap.size ≤ j) ∧ Fr K w w' := by
  obtain ⟨i0, hi0, z0, z1, z2⟩ := info_parts infoH
  have hlt := h.tk.lt
  obtain ⟨c0, c1, c2, c3⟩ := h.tk.cells
  have ha := Alloc_one h.aw h.tab c hc1 hmin (fun e => h.k0 (h.kk 0 (by simp [e]))) (fun e => h.k0 (h.kk 0 (by simp [e])))
  have HA := hide2 ha
  have H := hide2 h
  clear ha h
  go_enter Tryd.func48, Tryd.ntmps48
  go_wp2_with fail
  refine HA.out.mono ?_
  rintro e w1 ⟨rfl, hA, hF⟩
  have h1 := H.out.arena hF hA
  obtain ⟨d0, d1, d2, d3⟩ := h1.tk.cells
  have f3 := h1.tk.free 3
  have hs1 := hF.size
  have hlt1 : tb < w1.heap.size := by omega
  have hrow := h1.sp
  obtain ⟨ao, cap, e1⟩ := hrow.form
  have hbk : ∀ j, sv.ownBlock = some j → j < w1.heap.size := fun j e => (World.ownsRow.lt hrow j e).2
  have HR := hide2 hrow
  have H1 := hide2 h1
  have HF := hide2 hF
  have HNEW := hide2 (hcell_new w1 (.int .i64 (c : Int)) 3)
  clear c0 c1 c2 c3 HA hA hF h1 hrow
  subst e1
  go_wp2_with (at_builtin; refine Hid.out ?_)
  refine hide2 ?_
  refine wpList_append_own_at _ rfl _ _ 43 rfl 0 3 i0 (.int .i64 0) 1 8 Tryd.underlying43 hi0 z0 z1 z2 rfl (by decide) (.slice ao s.sp.length cap) _ _ rfl (World.ownsRow.alloc HR.out _) ⟨w1.heap.size, 0, none⟩ 1 1 [.int .i64 (c : Int)] rfl rfl HNEW.out (by simp [Value.oneCell']) (by unfold maxLen; omega) (by omega) (by simp) ?_
  intro v' w4 hown4 hgrow4 hat4 hb4
  obtain ⟨gt, capt, ev⟩ := hrow_succ hown4
  have hFa : Fr (fun _ => False) w1 (w1.alloc (.cells #[.int .i64 (c : Int)] 3)) := (Fr.refl _ w1).alloc _
  have hF4 : Fr (fun j => (Value.slice ao s.sp.length cap).ownBlock = some j) w1 w4 := (hFa.mono (G := fun j => (Value.slice ao s.sp.length cap).ownBlock = some j) (fun _ _ e => e.elim)).trans (Fr.grown hgrow4 (fun j e => e)) (fun j e => .inl e)
  have hr4 : Hr w4 0 v' (s.sp ++ [c]) := by
    unfold Hr
    rw [List.length_append, List.length_singleton, List.map_append]
    exact hown4
  have ho4 : ∀ j, v'.ownBlock = some j → (Value.slice ao s.sp.length cap).ownBlock = some j ∨ w1.heap.size ≤ j := fun j e => by
    rcases hb4 with e5 | e5
    · exact .inl (by rw [← e5]; exact e)
    · right
      rw [e5] at e
      simp at e
      omega
  have t4 := H1.out.tk.same (hF4.block tb hlt1 (fun e => (H1.out.ne.2 tb e).1 rfl))
  have f4 := t4.free 3
  have c4 := t4.cells.2.2.2
  have hlt4 : tb < w4.heap.size := t4.lt
  have hX := H1.out.spare (s' := { s with sp := s.sp ++ [c] }) rfl rfl hF4 hr4 ho4 rfl
  have HX := hide2 hX
  have HO := hide2 ho4
  clear hX d0 d1 d2 d3 f3 hr4 ho4 hown4 hgrow4 hat4 hb4 hFa hF4 t4 HNEW HR
  subst ev
  go_frame
  go_wp2
  go_ret
  have hFK : Fr K w w1 := HF.out.mono (fun j _ e => H.out.kk j (by rcases e with e | e <;> simp [e]))
  refine ⟨rfl, _, HX.out.1, fun j e => ?_, hFK.trans HX.out.2 (fun j e => .inl e)⟩
  rcases HO.out j e with e5 | e5
  · exact .inl (H.out.kk j (by simp [e5]))
  · exact .inr (by omega)

set_option maxRecDepth 100000 in
set_option maxHeartbeats 2000000 in
theorem Hm.take_full (h : Hm w K tb d g hb hc mb sv D T N m F s) (hf : T.count true = T.length) :
    Calls Tryd.prog 48 #[.pointer (some ⟨tb, 0, none⟩)] w fun e w' => e = .returned (.int .i64 (-1)) ∧ ∃ q, w' = w.drewN q := by
  obtain ⟨c0, c1, c2, c3⟩ := h.tk.cells
  have ha := Alloc_full h.aw hf
  have HA := hide2 ha
  clear ha h
  go_enter Tryd.func48, Tryd.ntmps48
  go_wp2_with fail
  refine HA.out.mono ?_
  rintro e w1 ⟨rfl, q, rfl⟩
  go_wp2
  go_ret
  exact ⟨rfl, q, rfl⟩

/-- Another frame's set of blocks, with the same old ones. -/
theorem Hm.more {K' : Nat → Prop} (h : Hm w K tb d g hb hc mb sv D T N m F s) (hK : ∀ j, K' j ↔ K j) : Hm w K' tb d g hb hc mb sv D T N m F s :=
  ⟨h.aw, h.tk, h.hd, h.mp, h.md, h.sp, h.ap, h.tab, fun e => h.k0 ((hK 0).1 e), fun j e => (hK j).2 (h.kk j e), fun j e => h.kl j ((hK j).1 e)⟩

set_option maxRecDepth 100000 in
set_option maxHeartbeats 2000000 in
/-- giveBack: a spare cell is given back. -/
theorem Hm.give (h : Hm w K tb d g hb hc mb sv D T N m F s) {c : Nat} (hc1 : c ∈ s.sp) (hct : T.getD c false = true) (hl2 : s.sp.length ≤ 1000000) :
    Calls Tryd.prog 37 #[.pointer (some ⟨tb, 0, none⟩), .int .i64 (c : Int)] w fun e w' => e = .returned (.tuple #[]) ∧ ∃ sv', Hm w' K tb d g hb hc mb sv' D (T.set c false) N m (flip F c) (s.given c) ∧ Fr K w w' := by
  obtain ⟨c0, c1, c2, c3⟩ := h.tk.cells
  have hs := h.isSpare (c : Int)
  have e1 : (s.sp.map fun c : Nat => (c : Int)).contains (c : Int) = true := by
    rw [List.contains_iff_mem]
    exact List.mem_map.2 ⟨c, hc1, rfl⟩
  rw [e1] at hs
  have hfr := Free_in h.aw c (tk_of hct)
  have HS := hide2 hs
  have HFR := hide2 hfr
  have H := hide2 h
  have HC := hide2 hc1
  have hlt := h.tk.lt
  clear hs hfr h hc1 e1
  go_enter Tryd.func37, Tryd.ntmps37
  go_wp2_with fail
  refine HS.out.mono ?_
  rintro e w0 ⟨rfl, rfl⟩
  go_wp2_with fail
  refine HFR.out.mono ?_
  rintro e w1 ⟨rfl, hA, hF⟩
  have h1 := H.out.arena hF hA
  have HN := hide2 (h1.noMore HC.out hl2)
  have HF := hide2 hF
  clear HS HFR hA h1 hF c0 c1 c2 c3
  go_wp2_with fail
  refine HN.out.mono ?_
  rintro e w2 ⟨rfl, sv', hH, hK, hF2⟩
  clear HN
  go_wp2
  go_end0
  have hFK : Fr K w0 w1 := HF.out.mono (fun j _ e => H.out.kk j (by rcases e with e | e <;> simp [e]))
  exact ⟨rfl, sv', hH.more (fun j => ⟨fun e => .inl e, fun e => e.elim id (hK j)⟩), hFK.trans hF2 (fun j e => .inl e)⟩
end
end Go.Proofs.YtbpihkojmbfccaaDoor
