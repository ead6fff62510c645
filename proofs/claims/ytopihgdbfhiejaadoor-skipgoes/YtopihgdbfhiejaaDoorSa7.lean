/-
  take: another cell for an operation's tower.
-/
import Derived.Test.YtopihgdbfhiejaaDoorSa6
import Derived.Maps.AppendAt
import Derived.Deep.RegionLaw
set_option linter.unusedVariables false
set_option linter.unusedSimpArgs false
namespace Go.Proofs.YtopihgdbfhiejaaDoor
open Go.RowKit Go.Maps

theorem step_append_eq9 {P : Program} {ops : Array Oper} {o : Oper} {a : Act} {w : World} {K : Act → World → Prop} {Q : Exit → Act → World → Prop} {E : Prop}
    (hg : o.guard = none) (s x : Operand) (t : TypeId) (hop : o.op = Op.call { callee := Callee.builtin Builtin.append, args := #[s, x], argTypes := #[t, t] })
    (v u v' : Value) (w' : World) (hs : a.eval s = v) (hx : a.eval x = u) (hrun : ∀ ty, (Builtin.append_ #[t, t] ty #[v, u]).run P w = .ok v' w') (hK : K (a.put o.dst v') w') :
    if Region.wanted o (yielded ops a.tmps) = true then Oper.wp P o a w K Q else E := by
  have hw : Region.wanted o (yielded ops a.tmps) = true := by simp [Region.wanted, hg]
  rw [if_pos hw]
  unfold Oper.wp
  simp [execOp, hop, resolve, invoke, builtin, hs, hx, hrun o.type, Result.andThen]
  exact hK
/-- An append of what was just laid, as an equation. -/
theorem run_append_eq9 {P : Program} (w : World) (base : Nat) (t e : TypeId) (i : TypeInfo) (z : Value) (size bytes : Nat) (ht : P.underlying t = some (.slice e)) (hi : P.info? e = some i) (hz : i.zero = some z) (hsize : i.size = size) (hby : i.bytes = bytes) (hzs : z.cells.size = size) (hsz : 0 < size)
    (v : Value) (n : Nat) (xs : List Value) (hown : w.ownsRow base e size v n xs) (news : List Value) (hl : news.length = 1 * size) (h1 : ∀ u ∈ news, u.oneCell' = true) (h63 : n + 1 ≤ maxLen) (hbytes : (n + 1) * bytes ≤ 140737488355328) (hbase : base ≤ w.heap.size) :
    ∃ g c w', (∀ ty, (Builtin.append_ #[t, t] ty #[v, .slice (some ⟨w.heap.size, 0, none⟩) 1 1]).run P (w.alloc (.cells news.toArray e)) = .ok (.slice (some ⟨g, 0, none⟩) (n + 1) c) w') ∧ w'.ownsRow base e size (.slice (some ⟨g, 0, none⟩) (n + 1) c) (n + 1) (xs ++ news) ∧ (w.alloc (.cells news.toArray e)).grownBy w' v.ownBlock ∧ (some g = v.ownBlock ∨ g = w.heap.size + 1) := by
  have hn : ∀ j u, news[j]? = some u → (w.alloc (.cells news.toArray e)).cell? ((⟨w.heap.size, 0, none⟩ : Addr).add j) = some u := by
    intro j u h
    have hb : (w.alloc (.cells news.toArray e)).heap[w.heap.size]? = some (.cells news.toArray e (0, 0)) := heap_alloc_new w _
    rw [addr_add, Go.Joins.cell_of_block hb, ← Array.getElem?_toList]
    simpa using h
  obtain ⟨v', w', hr, h2, h3, h4, h5⟩ := run_append_own_at (P := P) (w.alloc (.cells news.toArray e)) base t t e i z size bytes ht hi hz hsize hby hzs hsz v n xs (World.ownsRow.alloc hown _) ⟨w.heap.size, 0, none⟩ 1 1 news hl hn h1 h63 hbytes (by simp; omega)
  obtain ⟨g, c, rfl⟩ := hrow_succ h2
  refine ⟨g, c, w', fun ty => hr, h2, h3, ?_⟩
  rcases h5 with e5 | e5
  · exact .inl e5
  · right
    have : (some g : Option Nat) = some (w.alloc (.cells news.toArray e)).heap.size := e5
    simpa using this

/-- What a step leaves of whose blocks are whose. -/
structure Nx (w w' : World) (K B K' B' : Nat → Prop) : Prop where
  k : ∀ j, j < w.heap.size → (K' j ↔ K j)
  b : ∀ j, j < w.heap.size → (B' j ↔ B j)
  ap : ∀ j, K' j → ¬ B' j
  fr : Fr (fun j => K j ∨ B j) w w'
theorem Nx.same {w w' : World} {K B : Nat → Prop} (ap : ∀ j, K j → ¬ B j) (fr : Fr (fun j => K j ∨ B j) w w') : Nx w w' K B K B := ⟨fun _ _ => Iff.rfl, fun _ _ => Iff.rfl, ap, fr⟩
theorem Nx.trans {w w1 w' : World} {K B K1 B1 K' B' : Nat → Prop} (h : Nx w w1 K B K1 B1) (h2 : Nx w1 w' K1 B1 K' B') : Nx w w' K B K' B' := by
  have hs := h.fr.size
  refine ⟨fun j hj => (h2.k j (by omega)).trans (h.k j hj), fun j hj => (h2.b j (by omega)).trans (h.b j hj), h2.ap, h.fr.trans h2.fr (fun j e => ?_)⟩
  rcases Nat.lt_or_ge j w.heap.size with q | q
  · rcases e with e | e
    · exact .inl (.inl ((h.k j q).1 e))
    · exact .inl (.inr ((h.b j q).1 e))
  · exact .inr q

section
variable {w w' : World} {K B : Nat → Prop} {lb d g gt tc : Nat} {sv : Value} {T : List Bool} {N : List Int} {m : Int} {F : List Nat} {s : Sl} {ob : Nat} {cv : Value} {o : Opm}

/-- The spare cells are others: a new row, in its own block or a new one. -/
theorem Lm.spare {s' : Sl} {sv' : Value} {w1 w2 : World} (h : Lm w K lb d g gt tc sv T N m F s) (e1 : s'.tw = s.tw) (hF : Fr (fun j => sv.ownBlock = some j) w w2)
    (hr : Hr w2 0 sv' s'.sp) (ho : ∀ j, sv'.ownBlock = some j → sv.ownBlock = some j ∨ w.heap.size ≤ j) (hw : w1 = w2.setCell ⟨lb, 2, none⟩ sv') :
    Lm w1 (fun j => K j ∨ sv'.ownBlock = some j) lb d g gt tc sv' T N m F s' ∧ Fr K w w1 := by
  obtain ⟨⟨n1, n2, n3, n4, n5, n6⟩, n7⟩ := h.ne
  have hlt := h.lk.lt
  have hF2 : Fr (fun j => j = lb) w2 w1 := by rw [hw]; exact Fr.setCell (p := ⟨lb, 2, none⟩) (Fr.refl (fun j => j = lb) w2) (.inl rfl) _
  have hF3 : Fr (fun j => j = lb ∨ sv.ownBlock = some j) w w1 := (hF.mono (G := fun j => j = lb ∨ sv.ownBlock = some j) (fun j _ e => .inr e)).trans hF2 (fun j e => .inl (.inl e))
  have hk := h.kk
  have hno : ∀ j, sv'.ownBlock = some j → j ≠ lb ∧ j ≠ 0 := fun j e => by
    rcases ho j e with e3 | e3
    · exact ⟨(n7 j e3).1, fun e4 => h.k0 (hk 0 (by subst e4; simp [e3]))⟩
    · exact ⟨by omega, by omega⟩
  have q1 : ∀ j, j < w.heap.size → j ≠ lb → sv.ownBlock ≠ some j → w1.heap[j]? = w.heap[j]? := fun j hj a b => hF3.block j hj (by rintro (e | e); exact a e; exact b e)
  have hF4 : Fr K w w1 := hF3.mono (fun j _ e => hk j (by rcases e with e | e <;> simp [e]))
  refine ⟨⟨h.aw.same (q1 d h.aw.ab.lt (Ne.symm n1) (fun e => (n7 d e).2.1 rfl)) (q1 g h.aw.nb.lt (Ne.symm n2) (fun e => (n7 g e).2.2.1 rfl)), ?_, ?_, hrow_fr hr hF2 (fun j e e3 => (hno j e).1 e3), h.tab.fr hF4 h.k0, ?_, ?_, ?_⟩, hF4⟩
  · rw [e1, hw]
    exact (h.lk.same (hF.block lb hlt (fun e => (n7 lb e).1 rfl))).setS sv'
  · rw [e1]
    exact hrow_fr h.tw hF3 (fun j e => by cases e; rintro (e | e); exact n3 e.symm; exact (n7 gt e).2.2.2 rfl)
  · rintro (e | e)
    · exact h.k0 e
    · exact (hno 0 e).2 rfl
  · rintro j (e | e | e | e | e)
    · exact .inl (hk j (by simp [e]))
    · exact .inl (hk j (by simp [e]))
    · exact .inl (hk j (by simp [e]))
    · exact .inl (hk j (by simp [e]))
    · exact .inr e
  · rintro j (e | e)
    · exact Nat.lt_of_lt_of_le (h.kl j e) hF4.size
    · exact (World.ownsRow.lt (hrow_fr hr hF2 (fun j e e3 => (hno j e).1 e3)) j e).2
theorem Lm.more {K' : Nat → Prop} (h : Lm w K lb d g gt tc sv T N m F s) (hK : ∀ j, K' j ↔ K j) : Lm w K' lb d g gt tc sv T N m F s :=
  ⟨h.aw, h.lk, h.tw, h.sp, h.tab, fun e => h.k0 ((hK 0).1 e), fun j e => (hK j).2 (h.kk j e), fun j e => h.kl j ((hK j).1 e)⟩
/-- The operation's row is another. -/
theorem Ob.rowed {w1 w2 : World} {cv' : Value} {l : List Nat} (h : Ob w B ob lb cv o) (hF : Fr (fun j => cv.ownBlock = some j) w w2) (hr : Hr w2 0 cv' l) (ho : ∀ j, cv'.ownBlock = some j → cv.ownBlock = some j ∨ w.heap.size ≤ j) (hw : w1 = w2.setCell ⟨ob, 39, none⟩ cv') :
    Ob w1 (fun j => B j ∨ cv'.ownBlock = some j) ob lb cv' { o with cs := l } ∧ Fr B w w1 := by
  have hF2 : Fr (fun j => j = ob) w2 w1 := by rw [hw]; exact Fr.setCell (p := ⟨ob, 39, none⟩) (Fr.refl (fun j => j = ob) w2) (.inl rfl) _
  have hF3 : Fr B w w1 := (hF.mono (G := B) (fun j _ e => h.kk j (.inr e))).trans hF2 (fun j e => .inl (h.kk j (.inl e)))
  have hobl := h.om.lt
  have hno : ∀ j, cv'.ownBlock = some j → j ≠ ob ∧ j ≠ 0 := fun j e => by
    rcases ho j e with e3 | e3
    · exact ⟨fun e4 => h.ne (by rw [← e4]; exact e3), fun e4 => h.b0 (h.kk 0 (.inr (by rw [← e4]; exact e3)))⟩
    · exact ⟨by omega, by omega⟩
  have hr1 := hrow_fr hr hF2 (fun j e e3 => (hno j e).1 e3)
  refine ⟨⟨?_, hr1, ?_, ?_, ?_⟩, hF3⟩
  · rw [hw]; exact (h.om.fr hF (fun e => h.ne e)).setCv _ _
  · rintro (e | e)
    · exact h.b0 e
    · exact (hno 0 e).2 rfl
  · rintro j (e | e)
    · exact .inl (h.kk j (.inl e))
    · exact .inr e
  · rintro j (e | e)
    · exact Nat.lt_of_lt_of_le (h.kl j e) hF3.size
    · exact (World.ownsRow.lt hr1 j e).2

set_option maxRecDepth 100000 in
set_option maxHeartbeats 4000000 in
/-- take: another cell. -/
theorem take_any (h : Lm w K lb d g gt tc sv T N m F s) (ho : Ob w B ob lb cv o) (hKB : ∀ j, K j → ¬ B j) {c : Nat} (hc1 : T.getD c true = false) (hmin : ∀ j, j < c → T.getD j true = true) (hl2 : s.sp.length ≤ 1000000) (hl3 : o.cs.length ≤ 1000000) :
    Calls Tryd.prog 60 #[.pointer (some ⟨ob, 0, none⟩)] w fun e w' => e = .returned (.bool true) ∧ ∃ K' B' sv' cv', Lm w' K' lb d g gt tc sv' (T.set c true) (N.set c 0) m (flip F c) (s.taken c) ∧ Ob w' B' ob lb cv' { o with cs := o.cs ++ [c] } ∧ Nx w w' K B K' B' := by
  obtain ⟨i0, hi0, z0, z1, z2⟩ := info_parts infoH
  have hcells := ho.om.cells
  have hlc := h.lk.cells
  have c0 := hcells.1
  have c39 := hcells.2.2.2.2.2.2.1
  have l0 := hlc.1
  have HA := hide2 (Alloc_one h.aw h.tab c hc1 hmin (fun e => h.k0 (h.kk 0 (by simp [e]))) (fun e => h.k0 (h.kk 0 (by simp [e]))))
  have H := hide2 h
  have HO := hide2 ho
  clear h ho hcells hlc
  go_enter Tryd.func60, Tryd.ntmps60
  go_wp2_with fail
  refine HA.out.mono ?_
  rintro e w1 ⟨rfl, hA, hF⟩
  have h1 := H.out.arena hF hA
  have hFK : Fr K w w1 := hF.mono (fun j _ e => H.out.kk j (by rcases e with e | e <;> simp [e]))
  have o1 := HO.out.keep hFK (fun j hB hK => hKB j hK hB)
  have hc := o1.om.cells
  have d0 := hc.1
  have d39 := hc.2.2.2.2.2.2.1
  have hlt1 := o1.om.lt
  have hrow := o1.row
  obtain ⟨ao, an, cap, e1⟩ : ∃ a n c, cv = Value.slice a n c := by obtain ⟨a, c, e⟩ := hrow.form; exact ⟨a, _, c, e⟩
  have HR := hide2 hrow
  have H1 := hide2 h1
  have HFK := hide2 hFK
  have O1 := hide2 o1
  have HNEW := hide2 (hcell_new w1 (.int .i64 (c : Int)) 3)
  clear HA hA hF h1 hrow o1 hc hFK c0 c39 l0
  subst e1
  go_wp2_with (at_builtin; refine Hid.out ?_)
  refine hide2 ?_
  refine wpList_append_own_at _ rfl _ _ 47 rfl 0 3 i0 (.int .i64 0) 1 8 Tryd.underlying47 hi0 z0 z1 z2 rfl (by decide) (.slice ao an cap) _ _ rfl (World.ownsRow.alloc HR.out _) ⟨w1.heap.size, 0, none⟩ 1 1 [.int .i64 (c : Int)] rfl rfl HNEW.out (by simp [Value.oneCell']) (by unfold maxLen; omega) (by omega) (by simp) ?_
  intro v' w4 hown4 hgrow4 hat4 hb4
  obtain ⟨gc, capc, ev⟩ := hrow_succ hown4
  have hFa : Fr (fun _ => False) w1 (w1.alloc (.cells #[.int .i64 (c : Int)] 3)) := (Fr.refl _ w1).alloc _
  have hF4 : Fr (fun j => (Value.slice ao an cap).ownBlock = some j) w1 w4 := (hFa.mono (G := fun j => (Value.slice ao an cap).ownBlock = some j) (fun _ _ e => e.elim)).trans (Fr.grown hgrow4 (fun j e => e)) (fun j e => .inl e)
  have hr4 : Hr w4 0 v' (o.cs ++ [c]) := by
    unfold Hr
    rw [List.length_append, List.length_singleton, List.map_append]
    exact hown4
  have ho4 : ∀ j, v'.ownBlock = some j → (Value.slice ao an cap).ownBlock = some j ∨ w1.heap.size ≤ j := fun j e => by
    rcases hb4 with e5 | e5
    · exact .inl (by rw [← e5]; exact e)
    · right
      rw [e5] at e
      simp at e
      omega
  have hX := O1.out.rowed hF4 hr4 ho4 rfl
  have o4 := O1.out.om.fr hF4 (fun e => O1.out.ne e)
  have f39 := o4.free 39
  have q39 := o4.cells.2.2.2.2.2.2.1
  have hlt4 := o4.lt
  have HX := hide2 hX
  have HO4 := hide2 ho4
  have HF4 := hide2 hF4
  clear hX d0 d39 hr4 ho4 hown4 hgrow4 hat4 hb4 hFa hF4 o4 HNEW HR
  subst ev
  obtain ⟨w5, hw5⟩ : ∃ y, y = w4.setCell ⟨ob, 39, none⟩ (.slice (some ⟨gc, 0, none⟩) (o.cs.length + 1) capc) := ⟨_, rfl⟩
  have hsz1 := HFK.out.size
  have hBl : ∀ j, B j → j < w.heap.size := HO.out.kl
  -- the list behind that
  have h5 : Lm w5 K lb d g gt tc sv (T.set c true) (N.set c 0) m (flip F c) s := by
    rw [hw5]
    exact H1.out.keep HX.out.2 (fun j hK hB => hKB j hK hB) HO.out.b0
  have o5 := HX.out.1
  rw [← hw5] at o5
  have hs5 : w1.heap.size ≤ w5.heap.size := by rw [hw5]; exact HX.out.2.size
  obtain ⟨so, sn, sc, es⟩ : ∃ a n c, sv = Value.slice a n c := by obtain ⟨a, c, e⟩ := h5.sp.form; exact ⟨a, _, c, e⟩
  have hd5 := h5.keep ((Fr.refl (fun _ => False) w5).drew) (fun _ _ e => e) (fun e => e)
  obtain ⟨g7, c7, w7, hap, hown7, hgrow7, hb7⟩ := run_append_eq9 (P := Tryd.prog) w5.drew 0 47 3 i0 (.int .i64 0) 1 8 Tryd.underlying47 hi0 z0 z1 z2 rfl (by decide) sv s.sp.length _ hd5.sp [.int .i64 (c : Int)] rfl (by intro u hu; simp at hu; subst hu; rfl) (by unfold maxLen; omega) (by omega) (Nat.zero_le _)
  have hFd : Fr (fun _ => False) w5 (w5.drew.alloc (.cells #[.int .i64 (c : Int)] 3)) := ((Fr.refl _ w5).drew).alloc _
  have hF7 : Fr (fun j => sv.ownBlock = some j) w5 w7 := (hFd.mono (G := fun j => sv.ownBlock = some j) (fun _ _ e => e.elim)).trans (Fr.grown hgrow7 (fun j e => e)) (fun j e => .inl e)
  have hr7 : Hr w7 0 (.slice (some ⟨g7, 0, none⟩) (s.sp.length + 1) c7) (s.taken c).sp := by
    unfold Hr Sl.taken
    rw [List.length_append, List.length_singleton, List.map_append]
    exact hown7
  have ho7 : ∀ j, (Value.slice (some ⟨g7, 0, none⟩) (s.sp.length + 1) c7).ownBlock = some j → sv.ownBlock = some j ∨ w5.heap.size ≤ j := fun j e => by
    have ej : g7 = j := by simpa [Value.ownBlock] using e
    rcases hb7 with e5 | e5
    · exact .inl (by rw [← e5, ej])
    · right
      have : g7 = w5.heap.size + 1 := e5
      omega
  have hY := h5.spare (s' := s.taken c) rfl hF7 hr7 ho7 rfl
  have l7 := h5.lk.same (hF7.block lb h5.lk.lt (fun e => (h5.ne.2 lb e).1 rfl))
  have l5 := h5.lk.cells
  have x0 := l5.2.2
  have x5 := o5.om.cells.1
  have y2 := l7.cells.2.2
  have x7 := (o5.om.fr hF7 (fun e => hKB ob (H.out.kk ob (by simp [e])) (HO.out.kk ob (.inl rfl)))).cells.1
  have fy := l7.free 2
  have hlt5 := h5.lk.lt
  have hob5 := o5.om.lt
  have hlt7 := l7.lt
  have HY := hide2 hY
  have HO7 := hide2 ho7
  have HO5 := hide2 o5
  have HAP : Hid (∀ ty, (Builtin.append_ #[47, 47] ty #[sv, .slice (some ⟨w5.heap.size, 0, none⟩) 1 1]).run Tryd.prog (w5.drew.alloc (.cells #[.int .i64 (c : Int)] 3)) = .ok (.slice (some ⟨g7, 0, none⟩) (s.sp.length + 1) c7) w7) := hide2 hap
  clear hap hown7 hgrow7 hF7 hr7 ho7 hY l7 l5 hFd hd5 hb7 h5 o5
  subst es
  go_frame
  go_wp2_with fail
  try rw [← hw5]
  have HW5 := hide2 hw5
  clear hw5 q39 f39 hlt4
  go_region_law (refine step_append_eq9 (by rfl) _ _ _ (by rfl) (.slice so sn sc) (.slice (some ⟨w5.heap.size, 0, none⟩) 1 1) (.slice (some ⟨g7, 0, none⟩) (s.sp.length + 1) c7) w7 (by rfl) (by rfl) HAP.out ?_)
  all_goals
    go_wp2
    go_ret
    refine ⟨rfl, _, _, _, _, HY.out.1, HO5.out.keep HY.out.2 (fun j hB hK => ?_), ⟨fun j hj => ?_, fun j hj => ?_, fun j hK hB => ?_, ?_⟩⟩
    · rcases hB with hB | hB
      · exact hKB j hK hB
      · rcases HO4.out j hB with e | e
        · exact hKB j hK (HO.out.kk j (.inr e))
        · have := H.out.kl j hK; omega
    · refine ⟨fun e => ?_, fun e => .inl e⟩
      rcases e with e | e
      · exact e
      · rcases HO7.out j e with e2 | e2
        · exact H.out.kk j (by simp [e2])
        · omega
    · refine ⟨fun e => ?_, fun e => .inl e⟩
      rcases e with e | e
      · exact e
      · rcases HO4.out j e with e2 | e2
        · exact HO.out.kk j (.inr e2)
        · omega
    · have hBj : j < w5.heap.size ∧ ¬ K j := by
        refine ⟨HO5.out.kl j hB, fun hK2 => ?_⟩
        rcases hB with hB | hB
        · exact hKB j hK2 hB
        · rcases HO4.out j hB with e | e
          · exact hKB j hK2 (HO.out.kk j (.inr e))
          · have := H.out.kl j hK2; omega
      rcases hK with hK | hK
      · exact hBj.2 hK
      · rcases HO7.out j hK with e | e
        · exact hBj.2 (H.out.kk j (by simp [e]))
        · omega
    · have f1 := HFK.out.mono (G := fun j => K j ∨ B j) (fun j _ e => .inl e)
      have f2 := HX.out.2
      exact (f1.trans HX.out.2 (fun j e => .inl (.inr e))).trans (by rw [← HW5.out]; exact HY.out.2) (fun j e => .inl (.inl e))
end
end Go.Proofs.YtopihgdbfhiejaaDoor
