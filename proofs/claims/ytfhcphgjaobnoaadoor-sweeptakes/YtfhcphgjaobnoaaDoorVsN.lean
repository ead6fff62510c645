/-
  Layer 15: the document's Sweep. (Printed by gen_vsn.py.)
-/
import Derived.Test.YtfhcphgjaobnoaaDoorVtH
import Derived.Deep.RegionHeld3
set_option linter.unusedVariables false
set_option linter.unusedSimpArgs false
namespace Go.Proofs.YtfhcphgjaobnoaaDoor
open Go.RowKit Go.Maps

theorem step_append_eq9 {P : Program} {ops : Array Oper} {o : Oper} {a : Act} {w : World} {K : Act → World → Prop} {Q : Exit → Act → World → Prop} {E : Prop}
    (hg : o.guard = none) (s x : Operand) (t : TypeId) (hop : o.op = Op.call { callee := Callee.builtin Builtin.append, args := #[s, x], argTypes := #[t, t] })
    (v u v' : Value) (w' : World) (hs : a.eval s = v) (hx : a.eval x = u) (hrun : ∀ ty, (Builtin.append_ #[t, t] ty #[v, u]).run P w = .ok v' w') (hK : K (a.put o.dst v') w') :
    if Region.wanted o (yielded ops a.tmps) = true then Oper.wp P o a w K Q else E := by
  have hw : Region.wanted o (yielded ops a.tmps) = true := by simp [Region.wanted, hg]
  rw [if_pos hw]
  unfold Oper.wp
  simp [execOp, hop, resolve, invoke, builtin, hs, hx, hrun o.type, Result.andThen]
  exact hK
/-- An append of what was just laid, as an equation. -/
theorem run_append_eq9 {P : Program} (w : World) (base : Nat) (t e : TypeId) (i : TypeInfo) (z : Value) (size bytes : Nat) (ht : P.underlying t = some (.slice e)) (hi : P.info? e = some i) (hz : i.zero = some z) (hsize : i.size = size) (hby : i.bytes = bytes) (hzs : z.cells.size = size) (hsz : 0 < size)
    (v : Value) (n : Nat) (xs : List Value) (hown : w.ownsRow base e size v n xs) (news : List Value) (hl : news.length = 1 * size) (h1 : ∀ u ∈ news, u.oneCell' = true) (h63 : n + 1 ≤ maxLen) (hbytes : (n + 1) * bytes ≤ 140737488355328) (hbase : base ≤ w.heap.size) :
    ∃ v' w', (∀ ty, (Builtin.append_ #[t, t] ty #[v, .slice (some ⟨w.heap.size, 0, none⟩) 1 1]).run P (w.alloc (.cells news.toArray e)) = .ok v' w') ∧ w'.ownsRow base e size v' (n + 1) (xs ++ news) ∧ (w.alloc (.cells news.toArray e)).grownBy w' v.ownBlock ∧ (v' = .slice none 0 0 ↔ v = .slice none 0 0 ∧ 1 = 0) ∧ (v'.ownBlock = v.ownBlock ∨ v'.ownBlock = some (w.heap.size + 1)) := by
  have hn : ∀ j u, news[j]? = some u → (w.alloc (.cells news.toArray e)).cell? ((⟨w.heap.size, 0, none⟩ : Addr).add j) = some u := by
    intro j u h
    have hb : (w.alloc (.cells news.toArray e)).heap[w.heap.size]? = some (.cells news.toArray e (0, 0)) := heap_alloc_new w _
    rw [addr_add, Go.Joins.cell_of_block hb, ← Array.getElem?_toList]
    simpa using h
  obtain ⟨v', w', hr, h2, h3, h4, h5⟩ := run_append_own_at (P := P) (w.alloc (.cells news.toArray e)) base t t e i z size bytes ht hi hz hsize hby hzs hsz v n xs (World.ownsRow.alloc hown _) ⟨w.heap.size, 0, none⟩ 1 1 news hl hn h1 h63 hbytes (by simp; omega)
  exact ⟨v', w', fun ty => hr, h2, h3, h4, by simpa using h5⟩


section
variable {w w' : World} {J : Nat → Prop} {rb : Nat} {A : Stt} {fr st mark : Int} {xs : List Int}
theorem Rf.below (h : Rf w J rb A fr st) (hb : Below w.heap.size w w') : Rf w' J rb A fr st := h.keep (G := fun _ => False) (Fr.below hb) (fun _ _ => id)
theorem Rf.ok (h : Rf w J rb A fr st) : A.ok := by
  obtain ⟨_, _, _, h⟩ := h
  exact h.ok
theorem rchainN (h : Rf w J rb A fr st) {n : Int} {l : List Nat} (hc : ChN A n l) (hll : l.length ≤ 1000000) :
    Calls Tryd.prog 15 #[.pointer (some ⟨rb, 0, none⟩), .int .i64 n] w fun e w' => ∃ v, e = .returned v ∧ Hr w' w.heap.size v l ∧ Below w.heap.size w w' := by
  obtain ⟨vn, vv, vt, h⟩ := h
  rcases hc with ⟨h1, h2⟩ | ⟨h1, rfl⟩
  · obtain ⟨e, h3⟩ := lvI_nat h1
    have hn := h.ok.n1 0 _ h3
    obtain ⟨k, hk⟩ : ∃ k : Nat, n.toNat = k + 1 := ⟨n.toNat - 1, by omega⟩
    rw [hk] at e h2 h3
    rw [e]
    refine (rChain_in h h3 h2 hll).mono ?_
    rintro e w' ⟨v, rfl, hv, hf⟩
    exact ⟨v, rfl, hv, hf.to (fun _ _ e => e) (Nat.le_refl _)⟩
  · refine (ChainR_out h h1).mono ?_
    rintro e w' ⟨rfl, rfl⟩
    exact ⟨_, rfl, ⟨rfl, .inl ⟨rfl, rfl⟩⟩, Below.refl _ _⟩
/-- A version's words as they lie in the document's store. -/
theorem Rf.word (h : Rf w J rb A fr st) {v : Nat} (hv : A.lv 1 v = true) : ∃ g cap, w.cell? ⟨rb, 1, none⟩ = some (.slice (some ⟨g, 0, none⟩) (A.la 1) cap) ∧ w.cell? ⟨g, (v - 1) * 5 + 1, none⟩ = some (.int .u64 (A.va 2 v)) ∧ w.cell? ⟨g, (v - 1) * 5 + 2, none⟩ = some (.int .u64 (A.va 3 v)) ∧ rb < w.heap.size ∧ g < w.heap.size ∧ 1 ≤ v ∧ v ≤ A.la 1 ∧ A.la 1 ≤ 1000000 ∧ A.la 1 ≤ cap := by
  obtain ⟨vn, vv, vt, h⟩ := h
  have hb := h.ok.n1 1 v hv
  obtain ⟨k, rfl⟩ : ∃ k, v = k + 1 := ⟨v - 1, by omega⟩
  obtain ⟨g, cp, ev, hcell, hfz⟩ := h.rv.at (i := k) (by omega)
  have hl := h.rv.lt (b := g) (by rw [ev]; rfl)
  have hcp : A.la 1 ≤ cp := by
    obtain ⟨xs, ho, _⟩ := h.rv
    rw [ev] at ho
    rcases ho.2 with ⟨a, b⟩ | ⟨g2, c2, cur, a, _, _, hn, _⟩
    · cases a
    · injection a with a1 a2 a3; omega
  rw [show k + 1 - 1 = k by omega]
  exact ⟨g, cp, by rw [← ev]; exact h.cells.2.1, hcell 1 (by omega), hcell 2 (by omega), h.lt, hl.2, by omega, hb.2, h.la 1, hcp⟩
set_option maxRecDepth 100000 in
set_option maxHeartbeats 8000000 in
theorem rsweep_any {ao : Option Addr} {len cap : Nat} (h : Rf w J rb A fr st) (hs : Seq 1 ih w ao len cap xs) (hJ : ∀ b off, ao = some ⟨b, off, none⟩ → ¬ J b) (hlen : len ≤ 1000) (hla : A.la 1 ≤ 5000) (hfr : 0 ≤ fr ∧ fr ≤ 100000) (hb0 : 0 < w.heap.size) :
    Calls Tryd.prog 21 #[.pointer (some ⟨rb, 0, none⟩), .slice ao len cap, .int .i64 mark] w fun e w' => ∃ G : Nat, e = .returned (.int .i64 (G : Int)) ∧ ∃ A', Sws mark A xs A' G ∧ Raf w w' J rb A' (fr + 3 * (G : Int)) st := by
  obtain ⟨i0, hi0, z0, z1, z2⟩ := info_parts infoUv
  have HS := hide2 hs
  have HJ := hide2 hJ
  have H0 := hide2 h
  have hcap := hs.2.1
  have hmax := hs.2.2.1
  unfold maxLen at hmax
  clear h hs hJ
  go_enter Tryd.func21, Tryd.ntmps21
  go_wp2
  go_loopw [8, 7] (fun a c wr => ∃ (k G1 : Nat) (A1 : Stt) (J1 : Nat → Prop), k ≤ len ∧ a = .int .i64 k ∧ c = .int .i64 (G1 : Int) ∧ G1 ≤ 6000 * k ∧ Hid (Sws mark A (xs.take k) A1 G1) ∧ Hid (A1.la = A.la) ∧ Hid (Rf wr J1 rb A1 (fr + 3 * (G1 : Int)) st) ∧ Hid (∀ j, j < w.heap.size → (J1 j ↔ J j)) ∧ Hid (Fr J w wr)) (fun a _ _ => len - (intOf a).toNat)
  case atStart => exact ⟨0, 0, A, J, by omega, rfl, rfl, by omega, hide2 ⟨rfl, rfl⟩, hide2 rfl, hide2 (by simpa using H0.out), hide2 (fun _ _ => Iff.rfl), hide2 (Fr.refl _ _)⟩
  case round =>
    clear H0
    obtain ⟨k, G1, A1, J1, hk, rfl, rfl, hG1, SW, LA, R, HJ1, HF⟩ := hrel
    have hszr := HF.out.size
    by_cases hkl : k < len
    · have hkl2 : (k : Int) < (len : Int) := by omega
      obtain ⟨b, off, eao, hbl, hcell⟩ := HS.out.2.2.2 (by omega)
      obtain ⟨x, hx⟩ := some_at HS.out.1 hkl
      have q0 : wr.cell? ⟨b, off + k, none⟩ = some (.int .i64 x) := (HF.out.cell (p := ⟨b, off + k, none⟩) hbl (HJ.out b off eao)).trans (by have := hcell k x hx 0 _ rfl; simpa using this)
      have hbl2 : b < wr.heap.size := by omega
      subst eao
      obtain ⟨l, hc, hll⟩ := chN_ex R.out.ok x
      have hla1 : A1.la 1 ≤ 5000 := by rw [LA.out]; exact hla
      have HCH := hide2 (rchainN R.out hc (by omega))
      have HC := hide2 hc
      have HTK := hide2 (take_snoc hx)
      have hlive : ∀ y ∈ l, A1.lv 1 y = true := by
        rcases hc with ⟨_, q⟩ | ⟨_, q⟩
        · exact q.live
        · rw [q]; intro y hy; cases hy
      have HLV := hide2 hlive
      have HX := hide2 hx
      clear hcell hx hc hlive
      go_wp2_with fail
      refine HCH.out.mono ?_
      rintro e w1 ⟨v, rfl, hv, hb1⟩
      obtain ⟨la9, lc9, ev⟩ := hv.form
      subst ev
      have hs1 := hb1.size
      have HV := hide2 hv
      have HR1 := hide2 (R.out.below hb1)
      have HB1 := hide2 hb1
      have hq1 : w1.cell? ⟨b, off + k, none⟩ = some (.int .i64 x) := (hb1.cell (p := ⟨b, off + k, none⟩) hbl2).trans q0
      have HQ1 := hide2 hq1
      clear HCH hv hb1 R q0 hq1
      go_wp2
      go_loopw [12, 10, 11] (fun a v0 v1 wr => ∃ q : Nat, q ≤ l.length ∧ a = .int .i64 q ∧ Hid (Ur wr w1.heap.size v0 ((l.take q).map (A1.va 2))) ∧ Hid (Ur wr w1.heap.size v1 ((l.take q).map (A1.va 3))) ∧ Hid (∀ j, v0.ownBlock = some j → v1.ownBlock ≠ some j) ∧ Hid (Below w1.heap.size w1 wr)) (fun a _ _ _ => l.length - (intOf a).toNat)
      case atStart => exact ⟨0, by omega, rfl, hide2 ⟨rfl, .inl ⟨rfl, rfl⟩⟩, hide2 ⟨rfl, .inl ⟨rfl, rfl⟩⟩, hide2 (fun j e => by cases e), hide2 (Below.refl _ _)⟩
      case round =>
        obtain ⟨q, hq, rfl, U0, U1, AP, BL⟩ := hrel
        have hsz2 := BL.out.size
        obtain ⟨a0, p0, ev0⟩ := U0.out.form
        obtain ⟨a1, p1, ev1⟩ := U1.out.form
        rw [List.length_map, List.length_take, Nat.min_eq_left hq] at ev0 ev1
        subst ev0 ev1
        by_cases hql : q < l.length
        · have hql2 : (q : Int) < (l.length : Int) := by omega
          have hat : l[q]? = some (l.getD q 0) := by rw [List.getD_eq_getElem?_getD, List.getElem?_eq_getElem hql]; rfl
          have hym := List.mem_of_getElem? hat
          obtain ⟨gl, cap0, evl, c0⟩ := HV.out.at hql
          have hgl1 : gl < w1.heap.size := (World.ownsRow.lt HV.out gl (by rw [evl]; rfl)).2
          have c0' := (BL.out.cell (p := ⟨gl, q, none⟩) hgl1).trans c0
          injection evl with e1 e2 e3
          subst e1 e3
          have HTKq := hide2 (take_snoc hat)
          obtain ⟨y, hy⟩ : ∃ y, y = l.getD q 0 := ⟨_, rfl⟩
          rw [← hy] at c0' hym HTKq
          obtain ⟨gv, vcap, d1, d2, d3, d4, d5, d6, d7, d8, d9⟩ := (HR1.out.below BL.out).word (HLV.out y hym)
          have hgr : rb < w1.heap.size ∧ gv < w1.heap.size := by
            obtain ⟨gv2, vcap2, f1, _, _, f4, f5, _⟩ := HR1.out.word (HLV.out y hym)
            have := (BL.out.cell (p := ⟨rb, 1, none⟩) f4).trans f1
            rw [d1] at this
            injection this with this
            injection this with this
            injection this with this
            injection this with this
            exact ⟨f4, by rw [this]; exact f5⟩
          have hgl2 : gl < wr.heap.size := by omega
          obtain ⟨y0, hy0⟩ : ∃ y0, y = y0 + 1 := ⟨y - 1, by omega⟩
          rw [hy0] at c0' d2 d3 d7 HTKq
          rw [show y0 + 1 - 1 = y0 by omega] at d2 d3
          have c0'' : wr.cell? ⟨gl, q, none⟩ = some (.int .i64 ((y0 : Int) + 1)) := c0'
          have y3 : (y0 : Int) < ((A1.la 1 : Nat) : Int) := by omega
          have hw0 : IntKind.i64.wrap (y0 : Int) = (y0 : Int) := by first | (rw [IntKind.wrap_i64]; omega) | go_num | (simp [IntKind.wrap]; omega)
          have HAPb := hide2 (run_append_eq9 (P := Tryd.prog) wr.drew w1.heap.size 23 54 i0 (.int .u64 0) 1 8 Tryd.underlying23 hi0 z0 z1 z2 rfl (by decide) (.slice a0 q p0) q ((((l.take q).map (A1.va 2))).map uv) (by have z := U0.out; unfold Ur at z; rw [List.length_map, List.length_take, Nat.min_eq_left hq] at z; exact z) [.int .u64 (A1.va 2 (y0 + 1))] rfl (by intro u hu; simp at hu; subst hu; rfl) (by unfold maxLen; omega) (by omega) (by show w1.heap.size ≤ wr.heap.size; omega))
          have HNEb : Hid ((Value.slice a0 q p0).ownBlock ≠ some rb ∧ (Value.slice a0 q p0).ownBlock ≠ some gl ∧ (Value.slice a0 q p0).ownBlock ≠ some gv) := hide2 ⟨fun e => by have := (World.ownsRow.lt U0.out rb e).1; omega, fun e => by have := (World.ownsRow.lt U0.out gl e).1; omega, fun e => by have := (World.ownsRow.lt U0.out gv e).1; omega⟩
          clear hat hy c0 hym c0' hy0
          go_wp2_with fail
          refine wp_region_noPanic ?_
          refine wp_region_held_drew (S := (fun u : World => u.cell? ⟨rb, 1, none⟩ = some (.slice (some ⟨gv, 0, none⟩) (A1.la 1) vcap) ∧ u.cell? ⟨gl, q, none⟩ = some (.int .i64 ((y0 : Int) + 1)) ∧ u.cell? ⟨gv, y0 * 5 + 1, none⟩ = some (.int .u64 (A1.va 2 (y0 + 1))) ∧ rb < u.heap.size ∧ gl < u.heap.size ∧ gv < u.heap.size)) (by kernel_rfl) (⟨d1, c0'', d2, d4, hgl2, d5⟩) (fun hHeld => ?_)
          refine wpAnyH_take (i := 0) (oi := { dst := some 32, op := _, type := _, pos := _, after := _, guard := _ }) (v := ?_) rfl (by kernel_rfl) (by kernel_rfl) (by kernel_rfl) (fun _ _ _ h => h) (Or.inl ⟨by rfl, ?_⟩) (by assumption) ?_
          rotate_left 1
          · intro u hSw; obtain ⟨s1, s2, s3, s4, s5, s6⟩ := hSw; go_simp; try with_reducible rfl
          try simp only [Act.put, List.setIfInBounds_toArray, List.set_cons_zero, List.set_cons_succ]
          refine wpAnyH_take (i := 1) (oi := { dst := some 33, op := _, type := _, pos := _, after := _, guard := _ }) (v := ?_) rfl (by kernel_rfl) (by kernel_rfl) (by kernel_rfl) (fun _ _ _ h => h) (Or.inl ⟨by rfl, ?_⟩) (by assumption) ?_
          rotate_left 1
          · intro u hSw; obtain ⟨s1, s2, s3, s4, s5, s6⟩ := hSw; go_simp; try with_reducible rfl
          try simp only [Act.put, List.setIfInBounds_toArray, List.set_cons_zero, List.set_cons_succ]
          refine wpAnyH_take (i := 2) (oi := { dst := some 34, op := _, type := _, pos := _, after := _, guard := _ }) (v := ?_) rfl (by kernel_rfl) (by kernel_rfl) (by kernel_rfl) (fun _ _ _ h => h) (Or.inl ⟨by rfl, ?_⟩) (by assumption) ?_
          rotate_left 1
          · intro u hSw; obtain ⟨s1, s2, s3, s4, s5, s6⟩ := hSw; go_simp; try with_reducible rfl
          try simp only [Act.put, List.setIfInBounds_toArray, List.set_cons_zero, List.set_cons_succ]
          refine wpAnyH_take (i := 3) (oi := { dst := some 35, op := _, type := _, pos := _, after := _, guard := _ }) (v := ?_) rfl (by kernel_rfl) (by kernel_rfl) (by kernel_rfl) (fun _ _ _ h => h) (Or.inl ⟨by rfl, ?_⟩) (by assumption) ?_
          rotate_left 1
          · intro u hSw; obtain ⟨s1, s2, s3, s4, s5, s6⟩ := hSw; go_simp; try with_reducible rfl
          try simp only [Act.put, List.setIfInBounds_toArray, List.set_cons_zero, List.set_cons_succ]
          refine wpAnyH_take (i := 4) (oi := { dst := some 36, op := _, type := _, pos := _, after := _, guard := _ }) (v := ?_) rfl (by kernel_rfl) (by kernel_rfl) (by kernel_rfl) (fun _ _ _ h => h) (Or.inl ⟨by rfl, ?_⟩) (by assumption) ?_
          rotate_left 1
          · intro u hSw; obtain ⟨s1, s2, s3, s4, s5, s6⟩ := hSw; go_simp; try with_reducible rfl
          try simp only [Act.put, List.setIfInBounds_toArray, List.set_cons_zero, List.set_cons_succ]
          refine wpAnyH_take (i := 5) (oi := { dst := some 37, op := _, type := _, pos := _, after := _, guard := _ }) (v := ?_) rfl (by kernel_rfl) (by kernel_rfl) (by kernel_rfl) (fun _ _ _ h => h) (Or.inl ⟨by rfl, ?_⟩) (by assumption) ?_
          rotate_left 1
          · intro u hSw; obtain ⟨s1, s2, s3, s4, s5, s6⟩ := hSw; go_simp; try with_reducible rfl
          try simp only [Act.put, List.setIfInBounds_toArray, List.set_cons_zero, List.set_cons_succ]
          refine wpAnyH_take (i := 6) (oi := { dst := some 38, op := _, type := _, pos := _, after := _, guard := _ }) (v := ?_) rfl (by kernel_rfl) (by kernel_rfl) (by kernel_rfl) (fun _ _ _ h => h) (Or.inl ⟨by rfl, ?_⟩) (by assumption) ?_
          rotate_left 1
          · intro u hSw; obtain ⟨s1, s2, s3, s4, s5, s6⟩ := hSw; go_simp; try with_reducible rfl
          try simp only [Act.put, List.setIfInBounds_toArray, List.set_cons_zero, List.set_cons_succ]
          refine wpAnyH_take (i := 7) (oi := { dst := some 39, op := _, type := _, pos := _, after := _, guard := _ }) (v := ?_) rfl (by kernel_rfl) (by kernel_rfl) (by kernel_rfl) (fun _ _ _ h => h) (Or.inl ⟨by rfl, ?_⟩) (by assumption) ?_
          rotate_left 1
          · intro u hSw; obtain ⟨s1, s2, s3, s4, s5, s6⟩ := hSw; go_simp; try with_reducible rfl
          try simp only [Act.put, List.setIfInBounds_toArray, List.set_cons_zero, List.set_cons_succ]
          refine wpAnyH_take (i := 8) (oi := { dst := some 40, op := _, type := _, pos := _, after := _, guard := _ }) (v := ?_) rfl (by kernel_rfl) (by kernel_rfl) (by kernel_rfl) (fun _ _ _ h => h) (Or.inl ⟨by rfl, ?_⟩) (by assumption) ?_
          rotate_left 1
          · intro u hSw; obtain ⟨s1, s2, s3, s4, s5, s6⟩ := hSw; go_simp; try with_reducible rfl
          try simp only [Act.put, List.setIfInBounds_toArray, List.set_cons_zero, List.set_cons_succ]
          refine wpAnyH_take (i := 9) (oi := { dst := some 41, op := _, type := _, pos := _, after := _, guard := _ }) (v := ?_) rfl (by kernel_rfl) (by kernel_rfl) (by kernel_rfl) (fun _ _ _ h => h) (Or.inl ⟨by rfl, ?_⟩) (by assumption) ?_
          rotate_left 1
          · intro u hSw; obtain ⟨s1, s2, s3, s4, s5, s6⟩ := hSw; go_simp; try with_reducible rfl
          try simp only [Act.put, List.setIfInBounds_toArray, List.set_cons_zero, List.set_cons_succ]
          refine wpAnyH_take (i := 10) (oi := { dst := some 42, op := _, type := _, pos := _, after := _, guard := _ }) (v := ?_) rfl (by kernel_rfl) (by kernel_rfl) (by kernel_rfl) (fun _ _ _ h => h) (Or.inl ⟨by rfl, ?_⟩) (by assumption) ?_
          rotate_left 1
          · intro u hSw; obtain ⟨s1, s2, s3, s4, s5, s6⟩ := hSw; go_simp; try with_reducible rfl
          try simp only [Act.put, List.setIfInBounds_toArray, List.set_cons_zero, List.set_cons_succ]
          refine wpAnyH_take (i := 11) (oi := { dst := some 43, op := _, type := _, pos := _, after := _, guard := _ }) (v := ?_) rfl (by kernel_rfl) (by kernel_rfl) (by kernel_rfl) (fun _ _ _ h => h) (Or.inl ⟨by rfl, ?_⟩) (by assumption) ?_
          rotate_left 1
          · intro u hSw; obtain ⟨s1, s2, s3, s4, s5, s6⟩ := hSw; go_simp; try with_reducible rfl
          try simp only [Act.put, List.setIfInBounds_toArray, List.set_cons_zero, List.set_cons_succ]
          refine wpAnyH_take (i := 12) (oi := { dst := some 44, op := _, type := _, pos := _, after := _, guard := _ }) (v := ?_) rfl (by kernel_rfl) (by kernel_rfl) (by kernel_rfl) (fun _ _ _ h => h) (Or.inl ⟨by rfl, ?_⟩) (by assumption) ?_
          rotate_left 1
          · intro u hSw; obtain ⟨s1, s2, s3, s4, s5, s6⟩ := hSw; go_simp; try with_reducible rfl
          try simp only [Act.put, List.setIfInBounds_toArray, List.set_cons_zero, List.set_cons_succ]
          refine wpAnyH_ready (rs := [13]) (by kernel_rfl) (by simp) ?_
          refine AllReadyH.cons (o := { dst := some 45, op := _, type := _, pos := _, after := _, guard := _ }) rfl (fun Kq hK => ?_) AllReadyH.nil
          obtain ⟨s1, s2, s3, s4, s5, s6⟩ := hHeld
          go_simp
          have hbA : Below wr.drew.heap.size wr.drew (wr.drew.alloc (.cells #[.int .u64 (A1.va 2 (y0 + 1))] 54)) := (Below.refl _ _).alloc (Nat.le_refl _) _
          have fa1 := (hbA.cell (p := ⟨rb, 1, none⟩) s4).trans s1
          have fa2 := (hbA.cell (p := ⟨gl, q, none⟩) s5).trans s2
          have fa3 := (hbA.cell (p := ⟨gv, y0 * 5 + 1, none⟩) s6).trans s3
          have fa4 := Nat.lt_of_lt_of_le s4 hbA.size
          have fa5 := Nat.lt_of_lt_of_le s5 hbA.size
          have fa6 := Nat.lt_of_lt_of_le s6 hbA.size
          clear hbA
          refine hK.out _ _ (⟨fa1, fa2, fa3, fa4, fa5, fa6⟩) (fun hHeld => ?_)
          clear hK Kq
          try simp only [Act.put, List.setIfInBounds_toArray, List.set_cons_zero, List.set_cons_succ]
          obtain ⟨vb, xb, hap, hown4, hgrow4, -, hb4⟩ := HAPb.out
          refine wpAnyH_ready (rs := [14]) (by kernel_rfl) (by simp) ?_
          refine AllReadyH.cons (o := { dst := some 46, op := _, type := _, pos := _, after := _, guard := _ }) rfl (fun Kq hK => ?_) AllReadyH.nil
          obtain ⟨s1, s2, s3, s4, s5, s6⟩ := hHeld
          refine step_append_eq9 rfl _ _ _ rfl _ _ vb xb rfl rfl hap ?_
          have c1 := (World.cell?_of_block (a := ⟨rb, 1, none⟩) (hgrow4.block rb s4 (fun e => HNEb.out.1 e.symm))).trans s1
          have c2 := (World.cell?_of_block (a := ⟨gl, q, none⟩) (hgrow4.block gl s5 (fun e => HNEb.out.2.1 e.symm))).trans s2
          have c3 := (World.cell?_of_block (a := ⟨gv, y0 * 5 + 1, none⟩) (hgrow4.block gv s6 (fun e => HNEb.out.2.2 e.symm))).trans s3
          have c4 := Nat.lt_of_lt_of_le s4 hgrow4.size
          have c5 := Nat.lt_of_lt_of_le s5 hgrow4.size
          have c6 := Nat.lt_of_lt_of_le s6 hgrow4.size
          refine hK.out _ _ (⟨c1, c2, c3, c4, c5, c6⟩) (fun hHeld => ?_)
          clear hK Kq
          try simp only [Act.put, List.setIfInBounds_toArray, List.set_cons_zero, List.set_cons_succ]
          refine wpAnyH_take (i := 15) (oi := { dst := some 10, op := _, type := _, pos := _, after := _, guard := _ }) (v := ?_) rfl (by kernel_rfl) (by kernel_rfl) (by kernel_rfl) (fun _ _ _ h => h) (Or.inl ⟨by rfl, ?_⟩) (by assumption) ?_
          rotate_left 1
          · intro u hSw; obtain ⟨s1, s2, s3, s4, s5, s6⟩ := hSw; go_simp; try with_reducible rfl
          try simp only [Act.put, List.setIfInBounds_toArray, List.set_cons_zero, List.set_cons_succ]
          refine wpAnyH_done (by kernel_rfl) ?_ _
          refine NoPanic.normal ?_
          have hFb : Fr (fun j => (Value.slice a0 q p0).ownBlock = some j) wr xb := (((Fr.refl (fun j => (Value.slice a0 q p0).ownBlock = some j) wr).drew).alloc (.cells #[.int .u64 (A1.va 2 (y0 + 1))] 54)).trans (Fr.grown hgrow4 (fun j e => e)) (fun j e => .inl e)
          have hszb := hFb.size
          have m1 := (hFb.cell (p := ⟨rb, 1, none⟩) d4 HNEb.out.1).trans d1
          have m2 := (hFb.cell (p := ⟨gl, q, none⟩) hgl2 HNEb.out.2.1).trans c0''
          have m3 := (hFb.cell (p := ⟨gv, y0 * 5 + 2, none⟩) d5 HNEb.out.2.2).trans d3
          have m4 : rb < xb.heap.size := by omega
          have m5 : gl < xb.heap.size := by omega
          have m6 : gv < xb.heap.size := by omega
          have hU0 : Ur xb w1.heap.size vb (((l.take (q + 1)).map (A1.va 2))) := by
            unfold Ur
            rw [HTKq.out, List.map_append, List.length_append, List.length_map, List.length_take, Nat.min_eq_left hq, List.map_append]
            exact hown4
          have hU1 : Ur xb w1.heap.size (.slice a1 q p1) ((l.take q).map (A1.va 3)) := U1.out.fr hFb (fun j e z => AP.out j z e)
          have hBb : Below w1.heap.size w1 xb := BL.out.trans (hFb.to (fun j hj e => by have := (World.ownsRow.lt U0.out j e).1; omega) hsz2)
          have hAPb : ∀ j, vb.ownBlock = some j → (Value.slice a1 q p1).ownBlock ≠ some j := fun j e z => by
            rcases hb4 with r | r
            · exact AP.out j (by rw [← r]; exact e) z
            · rw [r] at e
              injection e with e
              have := (World.ownsRow.lt U1.out j z).2
              have h9 : wr.drew.heap.size = wr.heap.size := rfl
              omega
          obtain ⟨gtb, cpb, evb⟩ := hrow_succ hown4
          have HAPc := hide2 (run_append_eq9 (P := Tryd.prog) xb.drew w1.heap.size 23 54 i0 (.int .u64 0) 1 8 Tryd.underlying23 hi0 z0 z1 z2 rfl (by decide) (.slice a1 q p1) q ((((l.take q).map (A1.va 3))).map uv) (by have z := hU1; unfold Ur at z; rw [List.length_map, List.length_take, Nat.min_eq_left hq] at z; exact z) [.int .u64 (A1.va 3 (y0 + 1))] rfl (by intro u hu; simp at hu; subst hu; rfl) (by unfold maxLen; omega) (by omega) (by show w1.heap.size ≤ xb.heap.size; omega))
          have HNEc : Hid ((Value.slice a1 q p1).ownBlock ≠ some rb ∧ (Value.slice a1 q p1).ownBlock ≠ some gl ∧ (Value.slice a1 q p1).ownBlock ≠ some gv) := hide2 ⟨fun e => by have := (World.ownsRow.lt U1.out rb e).1; omega, fun e => by have := (World.ownsRow.lt U1.out gl e).1; omega, fun e => by have := (World.ownsRow.lt U1.out gv e).1; omega⟩
          have HU0 := hide2 hU0
          have HU1 := hide2 hU1
          have HBb := hide2 hBb
          have HAb := hide2 hAPb
          clear hap hown4 hgrow4 hb4 hHeld hFb hU0 hU1 hBb hAPb HAPb HNEb U0 U1 AP BL d1 d2 d3 d4 d5 c0'' hgl2
          subst evb
          go_wp2_with fail
          refine wp_region_noPanic ?_
          refine wp_region_held_drew (S := (fun u : World => u.cell? ⟨rb, 1, none⟩ = some (.slice (some ⟨gv, 0, none⟩) (A1.la 1) vcap) ∧ u.cell? ⟨gl, q, none⟩ = some (.int .i64 ((y0 : Int) + 1)) ∧ u.cell? ⟨gv, y0 * 5 + 2, none⟩ = some (.int .u64 (A1.va 3 (y0 + 1))) ∧ rb < u.heap.size ∧ gl < u.heap.size ∧ gv < u.heap.size)) (by kernel_rfl) (⟨m1, m2, m3, m4, m5, m6⟩) (fun hHeld => ?_)
          refine wpAnyH_take (i := 0) (oi := { dst := some 47, op := _, type := _, pos := _, after := _, guard := _ }) (v := ?_) rfl (by kernel_rfl) (by kernel_rfl) (by kernel_rfl) (fun _ _ _ h => h) (Or.inl ⟨by rfl, ?_⟩) (by assumption) ?_
          rotate_left 1
          · intro u hSw; obtain ⟨s1, s2, s3, s4, s5, s6⟩ := hSw; go_simp; try with_reducible rfl
          try simp only [Act.put, List.setIfInBounds_toArray, List.set_cons_zero, List.set_cons_succ]
          refine wpAnyH_take (i := 1) (oi := { dst := some 48, op := _, type := _, pos := _, after := _, guard := _ }) (v := ?_) rfl (by kernel_rfl) (by kernel_rfl) (by kernel_rfl) (fun _ _ _ h => h) (Or.inl ⟨by rfl, ?_⟩) (by assumption) ?_
          rotate_left 1
          · intro u hSw; obtain ⟨s1, s2, s3, s4, s5, s6⟩ := hSw; go_simp; try with_reducible rfl
          try simp only [Act.put, List.setIfInBounds_toArray, List.set_cons_zero, List.set_cons_succ]
          refine wpAnyH_take (i := 2) (oi := { dst := some 49, op := _, type := _, pos := _, after := _, guard := _ }) (v := ?_) rfl (by kernel_rfl) (by kernel_rfl) (by kernel_rfl) (fun _ _ _ h => h) (Or.inl ⟨by rfl, ?_⟩) (by assumption) ?_
          rotate_left 1
          · intro u hSw; obtain ⟨s1, s2, s3, s4, s5, s6⟩ := hSw; go_simp; try with_reducible rfl
          try simp only [Act.put, List.setIfInBounds_toArray, List.set_cons_zero, List.set_cons_succ]
          refine wpAnyH_take (i := 3) (oi := { dst := some 50, op := _, type := _, pos := _, after := _, guard := _ }) (v := ?_) rfl (by kernel_rfl) (by kernel_rfl) (by kernel_rfl) (fun _ _ _ h => h) (Or.inl ⟨by rfl, ?_⟩) (by assumption) ?_
          rotate_left 1
          · intro u hSw; obtain ⟨s1, s2, s3, s4, s5, s6⟩ := hSw; go_simp; try with_reducible rfl
          try simp only [Act.put, List.setIfInBounds_toArray, List.set_cons_zero, List.set_cons_succ]
          refine wpAnyH_take (i := 4) (oi := { dst := some 51, op := _, type := _, pos := _, after := _, guard := _ }) (v := ?_) rfl (by kernel_rfl) (by kernel_rfl) (by kernel_rfl) (fun _ _ _ h => h) (Or.inl ⟨by rfl, ?_⟩) (by assumption) ?_
          rotate_left 1
          · intro u hSw; obtain ⟨s1, s2, s3, s4, s5, s6⟩ := hSw; go_simp; try with_reducible rfl
          try simp only [Act.put, List.setIfInBounds_toArray, List.set_cons_zero, List.set_cons_succ]
          refine wpAnyH_take (i := 5) (oi := { dst := some 52, op := _, type := _, pos := _, after := _, guard := _ }) (v := ?_) rfl (by kernel_rfl) (by kernel_rfl) (by kernel_rfl) (fun _ _ _ h => h) (Or.inl ⟨by rfl, ?_⟩) (by assumption) ?_
          rotate_left 1
          · intro u hSw; obtain ⟨s1, s2, s3, s4, s5, s6⟩ := hSw; go_simp; try with_reducible rfl
          try simp only [Act.put, List.setIfInBounds_toArray, List.set_cons_zero, List.set_cons_succ]
          refine wpAnyH_take (i := 6) (oi := { dst := some 53, op := _, type := _, pos := _, after := _, guard := _ }) (v := ?_) rfl (by kernel_rfl) (by kernel_rfl) (by kernel_rfl) (fun _ _ _ h => h) (Or.inl ⟨by rfl, ?_⟩) (by assumption) ?_
          rotate_left 1
          · intro u hSw; obtain ⟨s1, s2, s3, s4, s5, s6⟩ := hSw; go_simp; try with_reducible rfl
          try simp only [Act.put, List.setIfInBounds_toArray, List.set_cons_zero, List.set_cons_succ]
          refine wpAnyH_take (i := 7) (oi := { dst := some 54, op := _, type := _, pos := _, after := _, guard := _ }) (v := ?_) rfl (by kernel_rfl) (by kernel_rfl) (by kernel_rfl) (fun _ _ _ h => h) (Or.inl ⟨by rfl, ?_⟩) (by assumption) ?_
          rotate_left 1
          · intro u hSw; obtain ⟨s1, s2, s3, s4, s5, s6⟩ := hSw; go_simp; try with_reducible rfl
          try simp only [Act.put, List.setIfInBounds_toArray, List.set_cons_zero, List.set_cons_succ]
          refine wpAnyH_take (i := 8) (oi := { dst := some 55, op := _, type := _, pos := _, after := _, guard := _ }) (v := ?_) rfl (by kernel_rfl) (by kernel_rfl) (by kernel_rfl) (fun _ _ _ h => h) (Or.inl ⟨by rfl, ?_⟩) (by assumption) ?_
          rotate_left 1
          · intro u hSw; obtain ⟨s1, s2, s3, s4, s5, s6⟩ := hSw; go_simp; try with_reducible rfl
          try simp only [Act.put, List.setIfInBounds_toArray, List.set_cons_zero, List.set_cons_succ]
          refine wpAnyH_take (i := 9) (oi := { dst := some 56, op := _, type := _, pos := _, after := _, guard := _ }) (v := ?_) rfl (by kernel_rfl) (by kernel_rfl) (by kernel_rfl) (fun _ _ _ h => h) (Or.inl ⟨by rfl, ?_⟩) (by assumption) ?_
          rotate_left 1
          · intro u hSw; obtain ⟨s1, s2, s3, s4, s5, s6⟩ := hSw; go_simp; try with_reducible rfl
          try simp only [Act.put, List.setIfInBounds_toArray, List.set_cons_zero, List.set_cons_succ]
          refine wpAnyH_take (i := 10) (oi := { dst := some 57, op := _, type := _, pos := _, after := _, guard := _ }) (v := ?_) rfl (by kernel_rfl) (by kernel_rfl) (by kernel_rfl) (fun _ _ _ h => h) (Or.inl ⟨by rfl, ?_⟩) (by assumption) ?_
          rotate_left 1
          · intro u hSw; obtain ⟨s1, s2, s3, s4, s5, s6⟩ := hSw; go_simp; try with_reducible rfl
          try simp only [Act.put, List.setIfInBounds_toArray, List.set_cons_zero, List.set_cons_succ]
          refine wpAnyH_take (i := 11) (oi := { dst := some 58, op := _, type := _, pos := _, after := _, guard := _ }) (v := ?_) rfl (by kernel_rfl) (by kernel_rfl) (by kernel_rfl) (fun _ _ _ h => h) (Or.inl ⟨by rfl, ?_⟩) (by assumption) ?_
          rotate_left 1
          · intro u hSw; obtain ⟨s1, s2, s3, s4, s5, s6⟩ := hSw; go_simp; try with_reducible rfl
          try simp only [Act.put, List.setIfInBounds_toArray, List.set_cons_zero, List.set_cons_succ]
          refine wpAnyH_take (i := 12) (oi := { dst := some 59, op := _, type := _, pos := _, after := _, guard := _ }) (v := ?_) rfl (by kernel_rfl) (by kernel_rfl) (by kernel_rfl) (fun _ _ _ h => h) (Or.inl ⟨by rfl, ?_⟩) (by assumption) ?_
          rotate_left 1
          · intro u hSw; obtain ⟨s1, s2, s3, s4, s5, s6⟩ := hSw; go_simp; try with_reducible rfl
          try simp only [Act.put, List.setIfInBounds_toArray, List.set_cons_zero, List.set_cons_succ]
          refine wpAnyH_ready (rs := [13]) (by kernel_rfl) (by simp) ?_
          refine AllReadyH.cons (o := { dst := some 60, op := _, type := _, pos := _, after := _, guard := _ }) rfl (fun Kq hK => ?_) AllReadyH.nil
          obtain ⟨s1, s2, s3, s4, s5, s6⟩ := hHeld
          go_simp
          have hbA : Below xb.drew.heap.size xb.drew (xb.drew.alloc (.cells #[.int .u64 (A1.va 3 (y0 + 1))] 54)) := (Below.refl _ _).alloc (Nat.le_refl _) _
          have fa1 := (hbA.cell (p := ⟨rb, 1, none⟩) s4).trans s1
          have fa2 := (hbA.cell (p := ⟨gl, q, none⟩) s5).trans s2
          have fa3 := (hbA.cell (p := ⟨gv, y0 * 5 + 2, none⟩) s6).trans s3
          have fa4 := Nat.lt_of_lt_of_le s4 hbA.size
          have fa5 := Nat.lt_of_lt_of_le s5 hbA.size
          have fa6 := Nat.lt_of_lt_of_le s6 hbA.size
          clear hbA
          refine hK.out _ _ (⟨fa1, fa2, fa3, fa4, fa5, fa6⟩) (fun hHeld => ?_)
          clear hK Kq
          try simp only [Act.put, List.setIfInBounds_toArray, List.set_cons_zero, List.set_cons_succ]
          obtain ⟨vc, xc, hap, hown4, hgrow4, -, hb4⟩ := HAPc.out
          refine wpAnyH_ready (rs := [14]) (by kernel_rfl) (by simp) ?_
          refine AllReadyH.cons (o := { dst := some 61, op := _, type := _, pos := _, after := _, guard := _ }) rfl (fun Kq hK => ?_) AllReadyH.nil
          obtain ⟨s1, s2, s3, s4, s5, s6⟩ := hHeld
          refine step_append_eq9 rfl _ _ _ rfl _ _ vc xc rfl rfl hap ?_
          have c1 := (World.cell?_of_block (a := ⟨rb, 1, none⟩) (hgrow4.block rb s4 (fun e => HNEc.out.1 e.symm))).trans s1
          have c2 := (World.cell?_of_block (a := ⟨gl, q, none⟩) (hgrow4.block gl s5 (fun e => HNEc.out.2.1 e.symm))).trans s2
          have c3 := (World.cell?_of_block (a := ⟨gv, y0 * 5 + 2, none⟩) (hgrow4.block gv s6 (fun e => HNEc.out.2.2 e.symm))).trans s3
          have c4 := Nat.lt_of_lt_of_le s4 hgrow4.size
          have c5 := Nat.lt_of_lt_of_le s5 hgrow4.size
          have c6 := Nat.lt_of_lt_of_le s6 hgrow4.size
          refine hK.out _ _ (⟨c1, c2, c3, c4, c5, c6⟩) (fun hHeld => ?_)
          clear hK Kq
          try simp only [Act.put, List.setIfInBounds_toArray, List.set_cons_zero, List.set_cons_succ]
          refine wpAnyH_take (i := 15) (oi := { dst := some 11, op := _, type := _, pos := _, after := _, guard := _ }) (v := ?_) rfl (by kernel_rfl) (by kernel_rfl) (by kernel_rfl) (fun _ _ _ h => h) (Or.inl ⟨by rfl, ?_⟩) (by assumption) ?_
          rotate_left 1
          · intro u hSw; obtain ⟨s1, s2, s3, s4, s5, s6⟩ := hSw; go_simp; try with_reducible rfl
          try simp only [Act.put, List.setIfInBounds_toArray, List.set_cons_zero, List.set_cons_succ]
          refine wpAnyH_done (by kernel_rfl) ?_ _
          refine NoPanic.normal ?_
          have hFc : Fr (fun j => (Value.slice a1 q p1).ownBlock = some j) xb xc := (((Fr.refl (fun j => (Value.slice a1 q p1).ownBlock = some j) xb).drew).alloc (.cells #[.int .u64 (A1.va 3 (y0 + 1))] 54)).trans (Fr.grown hgrow4 (fun j e => e)) (fun j e => .inl e)
          have H8 : Hid (Ur xc w1.heap.size vc ((l.take (q + 1)).map (A1.va 3))) := hide2 (by
            unfold Ur
            rw [HTKq.out, List.map_append, List.length_append, List.length_map, List.length_take, Nat.min_eq_left hq, List.map_append]
            exact hown4)
          have H7 : Hid (Ur xc w1.heap.size (.slice (some ⟨gtb, 0, none⟩) (q + 1) cpb) ((l.take (q + 1)).map (A1.va 2))) := hide2 (HU0.out.fr hFc (fun j e z => HAb.out j e z))
          have H9 : Hid (Below w1.heap.size w1 xc) := hide2 (HBb.out.trans (hFc.to (fun j hj e => by have := (World.ownsRow.lt HU1.out j e).1; omega) HBb.out.size))
          have H6 : Hid (∀ j, (Value.slice (some ⟨gtb, 0, none⟩) (q + 1) cpb).ownBlock = some j → vc.ownBlock ≠ some j) := hide2 (fun j e z => by
            rcases hb4 with r | r
            · exact HAb.out j e (by rw [← r]; exact z)
            · rw [r] at z
              injection z with z
              have := (World.ownsRow.lt HU0.out j e).2
              have h9 : xb.drew.heap.size = xb.heap.size := rfl
              omega)
          obtain ⟨gtc, cpc, evc⟩ := hrow_succ hown4
          clear hap hown4 hgrow4 hb4 hHeld hFc HAPc HNEc HU0 HU1 HBb HAb m1 m2 m3 m4 m5 m6
          subst evc
          go_wp2
          go_roundw
          case rel => exact ⟨q + 1, by omega, by go_num, H7, H8, H6, H9⟩
          case measure => simp [intOf]; omega
        · obtain rfl : q = l.length := by omega
          have hql2 : ¬ (l.length : Int) < (l.length : Int) := by omega
          have HU0 : Hid (Ur wr w1.heap.size (.slice a0 l.length p0) (l.map (A1.va 2))) := hide2 (by have z := U0.out; rw [List.take_length] at z; exact z)
          have HU1 : Hid (Ur wr w1.heap.size (.slice a1 l.length p1) (l.map (A1.va 3))) := hide2 (by have z := U1.out; rw [List.take_length] at z; exact z)
          have hR2 := HR1.out.below BL.out
          have hok1 := hR2.ok
          have w1U : ∀ x ∈ l.map (A1.va 2), U64 x := fun x hx => by
            obtain ⟨y, hy, rfl⟩ := List.mem_map.1 hx
            exact hok1.bd 2 y (by decide) (HLV.out y hy)
          have w2U : ∀ x ∈ l.map (A1.va 3), U64 x := fun x hx => by
            obtain ⟨y, hy, rfl⟩ := List.mem_map.1 hx
            exact hok1.bd 3 y (by decide) (HLV.out y hy)
          have hkz : kpz mark (l.map (A1.va 2)) (l.map (A1.va 3)) = kp mark (l.map (pr A1)) := by unfold kpz; rw [zip_pr]
          have hKP := rkeep_any (mark := mark) HU0.out.sq HU1.out.sq w1U w2U
          rw [hkz] at hKP
          have hkp : kp mark (l.map (pr A1)) ≤ l.length := by have := kp_le mark (l.map (pr A1)); simpa using this
          obtain ⟨s0, hs0⟩ : ∃ s0, s0 = kp mark (l.map (pr A1)) := ⟨_, rfl⟩
          rw [← hs0] at hKP hkp
          have HKP := hide2 hKP
          have HS0 := hide2 hs0
          have HR2 := hide2 hR2
          have HOK1 := hide2 hok1
          have hok0 := hok1
          have hgn : goneN mark A1 l = l.length - s0 := by unfold goneN; rw [hs0]
          have HGN := hide2 hgn
          have hFb2 : Fr (fun _ => False) w1 wr := ⟨BL.out.os, BL.out.tape, BL.out.output, BL.out.size, fun j hj _ => BL.out.block j hj⟩
          have hFa := (Fr.below (F := fun _ => False) HB1.out).trans (G := fun _ => False) hFb2 (fun _ e => e.elim)
          have HFA := hide2 hFa
          have hsza := hFa.size
          have NEXT : Hid (∀ (w9 : World) (G9 : Nat), G9 = G1 + goneN mark A1 l → Raf wr w9 J1 rb (swpA mark A1 x.toNat l) (fr + 3 * (G9 : Int)) st → ∃ (A' : Stt) (J' : Nat → Prop), Hid (Sws mark A (xs.take (k + 1)) A' G9) ∧ Hid (A'.la = A.la) ∧ Hid (Rf w9 J' rb A' (fr + 3 * (G9 : Int)) st) ∧ Hid (∀ j, j < w.heap.size → (J' j ↔ J j)) ∧ Hid (Fr J w w9)) := hide2 (fun w9 G9 hG9 hR9 => by
            obtain ⟨J9, r1, r2, r3⟩ := hR9
            have hz1 := HFA.out.size
            refine ⟨_, J9, hide2 (by rw [HTK.out, hG9]; exact SW.out.snoc HC.out), hide2 (by rw [swpA_la]; exact LA.out), hide2 r1, hide2 (fun j hj => (r2 j (by omega)).trans (HJ1.out j hj)), hide2 ((HF.out.trans HFA.out (fun _ e => e.elim)).trans r3 (fun j e => ?_))⟩
            rcases Nat.lt_or_ge j w.heap.size with z | z
            · exact .inl ((HJ1.out j z).1 e)
            · exact .inr z)
          have hgle : goneN mark A1 l ≤ l.length := by unfold goneN; omega
          clear U0 U1 AP hKP hs0 hR2 w1U w2U hkz hgn hFa HU0 HU1
          go_wp2_with fail
          refine HKP.out.mono ?_
          rintro e w5 ⟨rfl, q5⟩
          subst q5
          clear HKP
          by_cases hst : s0 = l.length
          · have hst2 : ((s0 : Nat) : Int) = ((l.length : Nat) : Int) := by omega
            have e1 : swpA mark A1 x.toNat l = A1 := by unfold swpA; rw [← HS0.out, if_pos hst]
            have e2 : goneN mark A1 l = 0 := by rw [HGN.out]; omega
            have HN := hide2 (NEXT.out w5 G1 (by rw [e2]; rfl) (by rw [e1]; exact Raf.same HR2.out))
            clear e1 e2 NEXT
            go_wp2
            go_roundw
            case rel =>
              obtain ⟨A', J', n1, n2, n3, n4, n5⟩ := HN.out
              exact ⟨k + 1, G1, A', J', by omega, by go_num, rfl, by omega, n1, n2, n3, n4, n5⟩
            case measure => simp [intOf]; omega
          · have hst2 : ¬ ((s0 : Nat) : Int) = ((l.length : Nat) : Int) := by omega
            have hlp : 0 < l.length := by omega
            obtain ⟨hlvn, hch⟩ : lvI A1 0 x = true ∧ Ch A1 (A1.va 0 x.toNat) l := by
              rcases HC.out with z | ⟨_, z⟩
              · exact z
              · rw [z] at hlp; simp at hlp
            have hadd : (G1 : Int) + ((l.length : Nat) : Int) - ((s0 : Nat) : Int) = ((G1 + goneN mark A1 l : Nat) : Int) := by rw [HGN.out]; omega
            have HADD := hide2 hadd
            have hHr := hrow_fr HV.out hFb2 (fun _ _ => id)
            have hHr2 : Hr w5 _ (.slice la9 l.length lc9) l := hHr
            have hlv2 := lvI_nat hlvn
            have HCH := hide2 hch
            have hlvx := hlv2.2
            have hxn := hok0.n1 0 _ hlvx
            clear hch
            by_cases hs1 : 0 < s0
            · have hs12 : ((s0 : Nat) : Int) > 0 := by omega
              have hs13 : (0 : Int) < ((s0 : Nat) : Int) := by omega
              have hs14 : ((s0 : Nat) : Int) - 1 = ((s0 - 1 : Nat) : Int) := by omega
              have hs15 : ((s0 - 1 : Nat) : Int) < ((l.length : Nat) : Int) := by omega
              have hi : s0 - 1 < l.length := by omega
              obtain ⟨gl, cap0, evl, c0⟩ := hHr2.at hi
              injection evl with e1 e2 e3
              subst e1 e3
              have hgl : gl < w5.heap.size := (World.ownsRow.lt hHr2 gl rfl).2
              obtain ⟨y, hy⟩ : ∃ y, y = l.getD (s0 - 1) 0 := ⟨_, rfl⟩
              have hy2 : l[s0 - 1]? = some y := by rw [hy, List.getD_eq_getElem?_getD, List.getElem?_eq_getElem hi]; rfl
              have hyl := HLV.out y (List.mem_of_getElem? hy2)
              have hyb := hok0.n1 1 y hyl
              have hch2 := HCH.out.drop (s0 - 1) y hy2
              rw [show s0 - 1 + 1 = s0 by omega] at hch2
              obtain ⟨y0, hy0⟩ : ∃ y0, y = y0 + 1 := ⟨y - 1, by omega⟩
              rw [← hy] at c0
              have hE : swpA mark A1 x.toNat l = offs (A1.put 4 y 0) (l.drop s0) := by
                unfold swpA
                rw [← HS0.out, if_neg hst, if_pos hs1, ← hy]
              have hll2 : (l.drop s0).length = l.length - s0 := by simp
              rw [hy0] at hyl hch2 c0 hE
              have hcu := rCut_in HR2.out hyl hch2 (by omega) ⟨by omega, by omega⟩
              rw [hll2] at hcu
              have HCU := hide2 hcu
              have HE := hide2 hE
              have c00 : w5.cell? ⟨gl, s0 - 1, none⟩ = some (.int .i64 ((y0 : Int) + 1)) := c0
              clear hcu hch2 hy2 hy hyl c0 hE hHr hHr2 hadd hlv2 hlvx hxn hlvn hy0
              go_wp2_with fail
              refine HCU.out.mono ?_
              rintro e w6 ⟨rfl, hR6⟩
              have hG9 : ((G1 + goneN mark A1 l : Nat) : Int) = (G1 : Int) + ((l.length - s0 : Nat) : Int) := by rw [HGN.out]; omega
              have HN := hide2 (NEXT.out w6 (G1 + goneN mark A1 l) rfl (by
                rw [HE.out, hG9, show fr + 3 * ((G1 : Int) + ((l.length - s0 : Nat) : Int)) = fr + 3 * (G1 : Int) + 3 * ((l.length - s0 : Nat) : Int) by omega]
                exact hR6))
              clear HCU hR6 NEXT hG9
              go_wp2
              go_roundw
              case rel =>
                obtain ⟨A', J', n1, n2, n3, n4, n5⟩ := HN.out
                exact ⟨k + 1, G1 + goneN mark A1 l, A', J', by omega, by go_num, by rw [← HADD.out] <;> go_num, by omega, n1, n2, n3, n4, n5⟩
              case measure => simp [intOf]; omega
            · obtain rfl : s0 = 0 := by omega
              obtain ⟨y, l2, hl⟩ : ∃ y l2, l = y :: l2 := by
                cases l with
                | nil => simp at hlp
                | cons y l2 => exact ⟨y, l2, rfl⟩
              obtain ⟨gl, cap0, evl, c0⟩ := hHr2.at hlp
              injection evl with e1 e2 e3
              subst e1 e3
              have hgl : gl < w5.heap.size := (World.ownsRow.lt hHr2 gl rfl).2
              have hg0 : l.getD 0 0 = y := by rw [hl]; rfl
              rw [hg0] at c0
              have hch2 := HCH.out
              have hnd := Ch.nodup hok0 HCH.out
              rw [hl] at hch2 hnd
              obtain ⟨hhd, hyl, hch3⟩ := hch2
              have hyb := hok0.n1 1 y hyl
              obtain ⟨y0, hy0⟩ : ∃ y0, y = y0 + 1 := ⟨y - 1, by omega⟩
              obtain ⟨x0, hx0⟩ : ∃ x0, x.toNat = x0 + 1 := ⟨x.toNat - 1, by omega⟩
              have hE : swpA mark A1 x.toNat l = ((offs (A1.put 4 y 0) l2).off 1 y).put 0 x.toNat ((offs (A1.put 4 y 0) l2).va 4 y) := by
                unfold swpA
                rw [← HS0.out, if_neg hst, if_neg (by omega), hl]
                rfl
              have hl4 : l.length = l2.length + 1 := by rw [hl]; rfl
              have d1 : (offs (A1.put 4 y 0) l2).lv 0 x.toNat = true := by rw [offs_lv, if_neg (fun e => by omega)]; exact hlvx
              have d2 : (offs (A1.put 4 y 0) l2).va 0 x.toNat = (y : Int) := by
                rw [offs_va]
                show up2 A1.va 4 y 0 0 x.toNat = _
                rw [up2_other _ _ (fun e => by omega)]
                exact hhd
              have d3 : (offs (A1.put 4 y 0) l2).lv 1 y = true := by
                rw [offs_lv, if_neg (fun e => (List.nodup_cons.1 hnd).1 e.2)]
                exact hyl
              have hxx : x = ((x0 : Int) + 1) := by have := hlv2.1; omega
              rw [hy0] at hyl hch3 c0 hE d1 d2 d3
              rw [hx0] at d1 d2 hE
              have HCU := hide2 (rCut_in HR2.out hyl hch3 (by omega) ⟨by omega, by omega⟩)
              have HE := hide2 hE
              have D := hide2 (And.intro d1 (And.intro d2 d3))
              have HXX := hide2 hxx
              have HX0 := hide2 hx0
              have HL4 := hide2 hl4
              have c00 : w5.cell? ⟨gl, 0, none⟩ = some (.int .i64 ((y0 : Int) + 1)) := c0
              have HQ5 : Hid (w5.cell? ⟨b, off + k, none⟩ = some (.int .i64 x)) := hide2 ((BL.out.cell (p := ⟨b, off + k, none⟩) (by have := HB1.out.size; show b < w1.heap.size; omega)).trans HQ1.out)
              have hl9 : l2.length < 6000 := by omega
              clear hch3 hhd hyl c0 hE hHr hHr2 hadd d1 d2 d3 hnd hl hl4 hxx hx0 hlv2 hlvx hxn hg0 hlvn
              go_wp2_with fail
              refine HCU.out.mono ?_
              rintro e w6 ⟨rfl, J6, r1, r2, r3⟩
              have hszz := r3.size
              have q6 : w6.cell? ⟨b, off + k, none⟩ = some (.int .i64 ((x0 : Int) + 1)) := by
                rw [← HXX.out]
                exact (r3.cell (p := ⟨b, off + k, none⟩) (by have := HB1.out.size; show b < w5.heap.size; omega) (fun e => HJ.out b off rfl ((HJ1.out b hbl).1 e))).trans HQ5.out
              have hb6 : b < w6.heap.size := by have := HB1.out.size; omega
              have HDR := hide2 (rDrop_in r1 D.out.1 (by rw [D.out.2.1]; rfl) D.out.2.2 ⟨by omega, by omega⟩)
              have HR2b := hide2 r2
              have HR3b := hide2 r3
              clear HCU r1 r2 r3
              go_wp2_with fail
              refine HDR.out.mono ?_
              rintro e w7 ⟨rfl, J7, t1, t2, t3⟩
              have hG9 : ((G1 + goneN mark A1 l : Nat) : Int) = (G1 : Int) + ((l2.length : Nat) : Int) + 1 := by rw [HGN.out]; have := HL4.out; omega
              have HN := hide2 (NEXT.out w7 (G1 + goneN mark A1 l) rfl (by
                rw [HX0.out, HE.out, hG9, show fr + 3 * ((G1 : Int) + ((l2.length : Nat) : Int) + 1) = fr + 3 * (G1 : Int) + 3 * ((l2.length : Nat) : Int) + 3 by omega]
                refine ⟨J7, t1, fun j hj => (t2 j (by omega)).trans (HR2b.out j hj), HR3b.out.trans t3 (fun j e => ?_)⟩
                rcases Nat.lt_or_ge j w5.heap.size with z | z
                · exact .inl ((HR2b.out j z).1 e)
                · exact .inr z))
              clear HDR t1 t2 t3 NEXT hG9
              go_wp2
              go_roundw
              case rel =>
                obtain ⟨A', J', n1, n2, n3, n4, n5⟩ := HN.out
                exact ⟨k + 1, G1 + goneN mark A1 l, A', J', by omega, by go_num, by rw [← HADD.out] <;> go_num, by omega, n1, n2, n3, n4, n5⟩
              case measure => simp [intOf]; omega
    · obtain rfl : k = len := by omega
      have hkl2 : ¬ (k : Int) < (k : Int) := by omega
      have HFIN : Hid (∃ A', Sws mark A xs A' G1 ∧ Raf w wr J rb A' (fr + 3 * (G1 : Int)) st) := hide2 ⟨A1, by have q := SW.out; rw [take_all HS.out.1] at q; exact q, J1, R.out, HJ1.out, HF.out⟩
      clear SW LA R HJ1 HF
      go_wp2
      go_ret
      exact ⟨G1, rfl, HFIN.out⟩
end
end Go.Proofs.YtfhcphgjaobnoaaDoor
