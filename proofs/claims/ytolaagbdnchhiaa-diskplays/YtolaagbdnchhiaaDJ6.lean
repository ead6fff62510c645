/-
  'does' of the kind 0. (Printed by gen_dj6.py.)
-/
import Derived.Test.YtolaagbdnchhiaaDJ5
import Derived.Laws.AppendOwnNone
import Derived.Maps.AppendAt
set_option linter.unusedVariables false
set_option linter.unusedSimpArgs false
namespace Go.Proofs.Ytolaagbdnchhiaa
open Go.RowKit Go.Maps

theorem wpList_append_eq {P : Program} {w : World} {ops : Array Oper} {rest : List Oper} {o : Oper} {a : Act} {Q : Exit → Act → World → Prop} (hgd : o.guard = none) (s x : Operand) (t : TypeId)
    (ho : o.op = .call { callee := .builtin .append, args := #[s, x], argTypes := #[t, t] }) (v xv v' : Value) (w' : World) (hs : a.eval s = v) (hx : a.eval x = xv)
    (hr : ∀ ty, (Builtin.append_ #[t, t] ty #[v, xv]).run P w = .ok v' w') (h : wpList P ops Q rest (a.put o.dst v') w') : wpList P ops Q (o :: rest) a w := by
  refine wpList_plain hgd fun K hK => ?_
  unfold Oper.wp
  simp [execOp, ho, resolve, invoke, builtin, hs, hx, hr, Result.andThen]
  exact hK _ _ h
theorem infoY : (Try.prog.info? 5).map (fun i => (i.zero, i.size, i.bytes)) = some (some (.int .u8 0), 1, 1) := by kernel_rfl
/-- append([]byte{}, b...): bytes of one's own. -/
theorem copy_bytes {u : World} {len cap : Nat} {ao : Option Addr} {xs : List Int} (hx : Sl u ao len cap xs) (hl : len ≤ 140737488351232) :
    ∃ v' w', (∀ ty, (Builtin.append_ #[32, 32] ty #[.slice (some ⟨u.heap.size, 0, none⟩) 0 0, .slice ao len cap]).run Try.prog (u.alloc (.cells #[] 5)) = .ok v' w') ∧ Own w' u.heap.size v' xs ∧ Below u.heap.size u w' := by
  obtain ⟨i0, hi0, z0, z1, z2⟩ := info_parts infoY
  have hown : (u.alloc (.cells #[] 5)).ownsRow u.heap.size 5 1 (.slice (some ⟨u.heap.size, 0, none⟩) 0 0) 0 [] :=
    ⟨rfl, .inr ⟨u.heap.size, 0, #[], rfl, Nat.le_refl _, heap_alloc_new _ _, Nat.le_refl _, Nat.zero_le _, rfl, rfl⟩⟩
  have hB0 : Below u.heap.size u (u.alloc (.cells #[] 5)) := (Below.refl _ u).alloc (Nat.le_refl _) _
  obtain ⟨h1, h2, h3, h4, h5, h6⟩ := hx.below hB0
  cases ao with
  | none =>
    obtain ⟨rfl, rfl⟩ := h5 rfl
    obtain rfl : xs = [] := List.eq_nil_of_length_eq_zero h1
    exact ⟨_, _, fun ty => run_append_owned_none (P := Try.prog) _ u.heap.size 32 ty 5 i0 1 Try.underlying32 hi0 _ 0 [] hown, hown, hB0⟩
  | some a =>
    have hnews : ∀ j w0, (bc xs)[j]? = some w0 → (u.alloc (.cells #[] 5)).cell? (a.add j) = some w0 := fun j w0 hj => by
      obtain ⟨hj1, rfl⟩ := bc_get xs j w0 hj
      obtain ⟨b, off, e, hbl, hc⟩ := h6 (by omega)
      obtain rfl : a = ⟨b, off, none⟩ := Option.some.inj e
      rw [addr_add]
      exact hc j (by omega)
    have key := fun ty => run_append_own_at (P := Try.prog) (u.alloc (.cells #[] 5)) u.heap.size 32 ty 5 i0 (.int .u8 0) 1 1 Try.underlying32 hi0 z0 z1 z2 rfl (by decide) (.slice (some ⟨u.heap.size, 0, none⟩) 0 0) 0 [] hown a len cap (bc xs) (by rw [bc_length, h1, Nat.mul_one]) hnews (bc_one xs) (by unfold maxLen; omega) (by omega) (by simp)
    obtain ⟨v', w', g1, g2, g3, g4, g5⟩ := key 0
    refine ⟨v', w', fun ty => by rw [← g1]; rfl, ?_, ?_⟩
    · have e : 0 + len = xs.length := by omega
      rw [e, List.nil_append] at g2
      exact g2
    · refine hB0.trans ((Fr.grown (F := fun j => u.heap.size ≤ j) g3 (fun j e => ?_)).to (fun j hj => by omega) (by simp))
      have : some u.heap.size = some j := e
      have := Option.some.inj this
      omega
theorem Sl.frX {X : Nat → Prop} {w w' : World} {ao : Option Addr} {len cap : Nat} {xs : List Int} (h : Sl w ao len cap xs) (hF : Fr X w w') (hX : 0 < len → ∀ b off, ao = some ⟨b, off, none⟩ → ¬ X b) : Sl w' ao len cap xs := by
  obtain ⟨h1, h2, h3, h4, h5, h6⟩ := h
  refine ⟨h1, h2, h3, h4, h5, fun hl => ?_⟩
  obtain ⟨b, off, e, hb, hc⟩ := h6 hl
  exact ⟨b, off, e, Nat.lt_of_lt_of_le hb hF.size, fun i hi => (hF.cell (p := ⟨b, off + i, none⟩) hb (hX hl b off e)).trans (hc i hi)⟩

section
variable {w : World} {E : Nat → Prop} {x d r : Nat} {P : PD} {c : Int} {o : Bool}

set_option maxRecDepth 100000 in
set_option maxHeartbeats 8000000 in
theorem jd_append (h : Jg w E d r P c o P c o) (hx : Wx w x d r) (hE : E x) (q : OpR) (hk : pk q.kind = 0) (hlo : -9223372036854775808 ≤ q.kind) (hhi : q.kind ≤ 9223372036854775807) (hs : q.name.size ≤ maxLen) (hsl : Sl w q.bo q.bl q.bc q.bs) (hbl : q.bl ≤ 140737488351232) (hqe : 0 < q.bl → ∀ b off, q.bo = some ⟨b, off, none⟩ → E b ∧ b ≠ x) :
    Calls Try.prog 11 #[.pointer (some ⟨x, 0, none⟩), q.val] w fun e w' => e = .returned (.bool true) ∧ Dres w w' E x := by
  have D1 := Dy.start h hx hE q
  obtain ⟨b0, -⟩ := D1.bx.cells
  have hxl := hx.lt
  have HP := hide2 (pick_any q.kind (w.alloc (.cells #[.int .i64 q.kind, .string q.name, .string q.to, .slice q.bo q.bl q.bc, .int .i64 q.n, .int .i64 q.k1, .int .i64 q.k2, .int .i64 q.k3] 36)) hlo hhi)
  rw [hk] at HP
  have F1 : Fr (fun j => ¬ E j ∨ j = x) w (w.alloc (.cells #[.int .i64 q.kind, .string q.name, .string q.to, .slice q.bo q.bl q.bc, .int .i64 q.n, .int .i64 q.k1, .int .i64 q.k2, .int .i64 q.k3] 36)) := (Fr.refl _ w).alloc _
  obtain ⟨s1, s2, s3, s4, s5, s6⟩ := D1.six
  have hel : ∀ j, E j → j < w.heap.size := fun j e => by
    obtain ⟨⟨K, κ, ca, g1, g2, g3, g4, g5⟩, -, -⟩ := h
    exact (g5 j e).2
  unfold OpR.val
  generalize hW : w.alloc (.cells #[.int .i64 q.kind, .string q.name, .string q.to, .slice q.bo q.bl q.bc, .int .i64 q.n, .int .i64 q.k1, .int .i64 q.k2, .int .i64 q.k3] 36) = W at *
  go_enter Try.func11, Try.ntmps11
  go_wp2_with fail
  try rw [hW]
  refine HP.out.mono ?_
  rintro e w1 ⟨rfl, rfl⟩
  clear HP
  have HD1 := hide2 D1.drew
  have HF1 := hide2 F1
  have HEL := hide2 hel
  have hyl : w.heap.size < w1.heap.size := (Array.getElem?_eq_some_iff.1 D1.bx).1
  have hslW : Sl w1 q.bo q.bl q.bc q.bs := hsl.frX F1 (fun hl b off e => by
    obtain ⟨e1, e2⟩ := hqe hl b off e
    rintro (h | h)
    · exact h e1
    · exact e2 h)
  obtain ⟨v2, w2, hap, hO2, hB2⟩ := copy_bytes hslW hbl
  obtain ⟨ab, cb, eb⟩ := own_form hO2
  subst eb
  have HAP := hide2 hap
  have HD2 := hide2 (D1.wide hB2)
  have HO2 := hide2 hO2
  have HB2 := hide2 hB2
  have hbyt := hslW.2.2.2.1
  have HBY := hide2 hbyt
  have hlen1 : q.bs.length = q.bl := hslW.1
  have HSL := hide2 hsl
  have HQE := hide2 hqe
  clear D1 F1 hel hW h hx hap hO2 hslW hB2 HD1 hsl hqe hbyt
  have s3' := s3
  go_wp2_with (at_builtin; refine Hid.out ?_)
  refine hide2 ?_
  refine wpList_append_eq rfl _ _ 32 rfl (.slice (some ⟨w1.heap.size, 0, none⟩) 0 0) (.slice q.bo q.bl q.bc) _ _ rfl rfl HAP.out ?_
  clear HAP s1 s2 s3 s3' s4 s5 s6
  obtain ⟨s1, s2, s3, s4, s5, s6⟩ := HD2.out.six
  have HD2' := hide2 HD2.out.drew
  have hB2s := HB2.out.size
  have HF2 : Hid (Fr (fun j => ¬ E j ∨ j = x) w w2.drew) := hide2 ((HF1.out.trans (G := fun _ => False) (Fr.below HB2.out) (fun j hj => hj.elim)).drewN 1)
  have HO2' : Hid (Own w2.drew w1.heap.size (.slice ab q.bs.length cb) q.bs) := hide2 (row_any HO2.out fun j e => rfl)
  obtain ⟨ab2, cb2, eb2, hslb, hbE⟩ := Own.sl HO2'.out HBY.out
  simp only [Value.slice.injEq] at eb2
  obtain ⟨rfl, -, rfl⟩ := eb2
  have hbl2 : ∀ b off, ab = some ⟨b, off, none⟩ → w1.heap.size ≤ b ∧ b < w2.heap.size := fun b off e => ⟨hbE b off e, by
    have := World.ownsRow.lt HO2'.out b (by rw [e]; rfl)
    exact this.2⟩
  have HBL := hide2 hbl2
  have HSLB := hide2 hslb
  have HLEN := hide2 hlen1
  have hml := hslb.2.1
  have hml2 := hslb.2.2.1
  unfold maxLen at hml2
  obtain ⟨L, hL⟩ : ∃ L, L = q.bs.length := ⟨_, rfl⟩
  rw [← hL] at HSLB HO2' hml
  have HLL := hide2 hL
  simp only [← hL]
  clear hbl2 hslb hbE hlen1 hL HD2
  go_frame
  go_wp2
  refine wp_region_noPanic ?_
  refine wp_region_held_drew (S := (fun u : World => u.cell? ⟨x, 0, none⟩ = some (.pointer (some ⟨d, 0, none⟩)) ∧ u.cell? ⟨x, 1, none⟩ = some (.pointer (some ⟨r, 0, none⟩)) ∧ u.cell? ⟨w.heap.size, 1, none⟩ = some (.string q.name) ∧ u.cell? ⟨w.heap.size, 2, none⟩ = some (.string q.to) ∧ u.cell? ⟨w.heap.size, 3, none⟩ = some (.slice q.bo q.bl q.bc) ∧ u.cell? ⟨w.heap.size, 4, none⟩ = some (.int .i64 q.n))) (by kernel_rfl) (⟨s1, s2, s3, s4, s5, s6⟩) (fun hHeld => ?_)
  refine wpAnyH_take (i := 0) (oi := { dst := some 23, op := _, type := _, pos := _, after := _, guard := _ }) (v := ?_) rfl (by kernel_rfl) (by kernel_rfl) (by kernel_rfl) (fun _ _ _ h => h) (Or.inl ⟨by rfl, ?_⟩) (by assumption) ?_
  rotate_left 1
  · intro u hSw; obtain ⟨s1, s2, s3, s4, s5, s6⟩ := hSw; go_simp; try with_reducible rfl
  try simp only [Act.put, List.setIfInBounds_toArray, List.set_cons_zero, List.set_cons_succ]
  refine wpAnyH_take (i := 1) (oi := { dst := some 24, op := _, type := _, pos := _, after := _, guard := _ }) (v := ?_) rfl (by kernel_rfl) (by kernel_rfl) (by kernel_rfl) (fun _ _ _ h => h) (Or.inl ⟨by rfl, ?_⟩) (by assumption) ?_
  rotate_left 1
  · intro u hSw; obtain ⟨s1, s2, s3, s4, s5, s6⟩ := hSw; go_simp; try with_reducible rfl
  try simp only [Act.put, List.setIfInBounds_toArray, List.set_cons_zero, List.set_cons_succ]
  refine wpAnyH_take (i := 2) (oi := { dst := some 25, op := _, type := _, pos := _, after := _, guard := _ }) (v := ?_) rfl (by kernel_rfl) (by kernel_rfl) (by kernel_rfl) (fun _ _ _ h => h) (Or.inl ⟨by rfl, ?_⟩) (by assumption) ?_
  rotate_left 1
  · intro u hSw; obtain ⟨s1, s2, s3, s4, s5, s6⟩ := hSw; go_simp; try with_reducible rfl
  try simp only [Act.put, List.setIfInBounds_toArray, List.set_cons_zero, List.set_cons_succ]
  refine wpAnyH_take (i := 3) (oi := { dst := some 26, op := _, type := _, pos := _, after := _, guard := _ }) (v := ?_) rfl (by kernel_rfl) (by kernel_rfl) (by kernel_rfl) (fun _ _ _ h => h) (Or.inl ⟨by rfl, ?_⟩) (by assumption) ?_
  rotate_left 1
  · intro u hSw; obtain ⟨s1, s2, s3, s4, s5, s6⟩ := hSw; go_simp; try with_reducible rfl
  try simp only [Act.put, List.setIfInBounds_toArray, List.set_cons_zero, List.set_cons_succ]
  refine wpAnyH_take (i := 4) (oi := { dst := some 27, op := _, type := _, pos := _, after := _, guard := _ }) (v := ?_) rfl (by kernel_rfl) (by kernel_rfl) (by kernel_rfl) (fun _ _ _ h => h) (Or.inl ⟨by rfl, ?_⟩) (by assumption) ?_
  rotate_left 1
  · intro u hSw; obtain ⟨s1, s2, s3, s4, s5, s6⟩ := hSw; go_simp; try with_reducible rfl
  try simp only [Act.put, List.setIfInBounds_toArray, List.set_cons_zero, List.set_cons_succ]
  refine wpAnyH_take (i := 5) (oi := { dst := some 28, op := _, type := _, pos := _, after := _, guard := _ }) (v := ?_) rfl (by kernel_rfl) (by kernel_rfl) (by kernel_rfl) (fun _ _ _ h => h) (Or.inl ⟨by rfl, ?_⟩) (by assumption) ?_
  rotate_left 1
  · intro u hSw; obtain ⟨s1, s2, s3, s4, s5, s6⟩ := hSw; go_simp; try with_reducible rfl
  try simp only [Act.put, List.setIfInBounds_toArray, List.set_cons_zero, List.set_cons_succ]
  refine wpAnyH_take (i := 6) (oi := { dst := some 29, op := _, type := _, pos := _, after := _, guard := _ }) (v := ?_) rfl (by kernel_rfl) (by kernel_rfl) (by kernel_rfl) (fun _ _ _ h => h) (Or.inl ⟨by rfl, ?_⟩) (by assumption) ?_
  rotate_left 1
  · intro u hSw; obtain ⟨s1, s2, s3, s4, s5, s6⟩ := hSw; go_simp; try with_reducible rfl
  try simp only [Act.put, List.setIfInBounds_toArray, List.set_cons_zero, List.set_cons_succ]
  refine wpAnyH_ready (rs := [7]) (by kernel_rfl) (by simp) ?_
  refine AllReadyH.cons (o := { dst := some 30, op := _, type := _, pos := _, after := _, guard := _ }) rfl (fun K hK => ?_) AllReadyH.nil
  go_simp
  refine (jp_append HD2'.out.jg q.name hs ab L cb q.bs HSLB.out (fun _ b off e => .inr (HBL.out b off e))).mono ?_
  rintro e w3 ⟨v, rfl, rfl, hj3, F3⟩
  have HD3 := hide2 (HD2'.out.next hj3 F3)
  have HF3 := hide2 F3
  clear hj3 F3
  go_wp2_with fail
  refine hK.out _ _ (HD3.out.six) (fun hHeld => ?_)
  clear hK K
  try simp only [Act.put, List.setIfInBounds_toArray, List.set_cons_zero, List.set_cons_succ]
  refine wpAnyH_take (i := 8) (oi := { dst := some 6, op := _, type := _, pos := _, after := _, guard := _ }) (v := ?_) rfl (by kernel_rfl) (by kernel_rfl) (by kernel_rfl) (fun _ _ _ h => h) (Or.inl ⟨by rfl, ?_⟩) (by assumption) ?_
  rotate_left 1
  · intro u hSw; obtain ⟨s1, s2, s3, s4, s5, s6⟩ := hSw; go_simp; try with_reducible rfl
  try simp only [Act.put, List.setIfInBounds_toArray, List.set_cons_zero, List.set_cons_succ]
  refine wpAnyH_done (by kernel_rfl) ?_ _
  refine NoPanic.normal ?_
  have hs3 := HF3.out.size
  have HO3 : Hid (∃ zs : List Int, zs.length = L ∧ Own w3 w1.heap.size (.slice ab L cb) zs) := hide2 ⟨q.bs, HLL.out.symm, by
    have h9 := HO2'.out
    have e9 := HLL.out
    unfold Own at h9 ⊢
    refine row_any h9 fun j e => HF3.out.block j ?_ (fun hn => hn (.inr ?_))
    · exact (World.ownsRow.lt h9 j e).2
    · exact ⟨(World.ownsRow.lt h9 j e).1, (World.ownsRow.lt h9 j e).2⟩⟩
  have HF3' : Hid (Fr (fun j => ¬ E j ∨ j = x) w w3) := hide2 (HF2.out.trans (HF3.out.mono (G := fun j => ¬ E j ∨ j = x) (fun j _ hj => .inl (fun e => hj (.inl (.inl e))))) (fun j hj => .inl hj))
  have hge : w.heap.size ≤ w1.heap.size := HF1.out.size
  have HD30 := HD3
  clear s1 s2 s3 s4 s5 s6 HD2' HSLB HF2 HO2' HO2 HF3
  generalize hans : ans P.n c o (P.app q.name q.bs) = av at *
  have HANS := hide2 hans
  generalize hlef : lef P c o (P.app q.name q.bs) = PL at *
  generalize hoff : offed P.n c o = ol at *
  have HLEF := hide2 hlef
  have HOFF := hide2 hoff
  clear hans hlef hoff
  go_wp2
  go_loopw [7] (fun i wr => ∃ k : Nat, k ≤ L ∧ i = .int .i64 k ∧ (∃ zs : List Int, zs.length = L ∧ Own wr w1.heap.size (.slice ab L cb) zs) ∧ Dy wr (fun j => ((E j ∨ j = w.heap.size) ∨ w1.heap.size ≤ j ∧ j < w2.heap.size)) x d r PL c ol P c o w.heap.size q ∧ Fr (fun j => ¬ E j ∨ j = x) w wr) (fun i _ => L - (intOf i).toNat)
  case atStart => exact ⟨0, by omega, rfl, HO3.out, HD3.out, HF3'.out⟩
  case round =>
    clear HO3 HF3' HD3 HD30
    obtain ⟨k, hk, rfl, ⟨zs, hz1, hz2⟩, hD, hF⟩ := hrel
    by_cases hkL : k < L
    · subst hz1
      obtain ⟨g, cg, eg⟩ := Go.Joins.ownsRow_form hz2 (by omega)
      simp only [Value.slice.injEq] at eg
      obtain ⟨rfl, -, rfl⟩ := eg
      obtain ⟨v0, c0, f0, hg1, hg2⟩ := own_cell hz2 hkL
      have hgb := (HBL.out g 0 rfl).2
      have hO2 := own_put (k := k) hz2 77
      have hgx : g ≠ x := by have := HEL.out x hE; omega
      have hgy : g ≠ w.heap.size := by
        omega
      have hD2 : Dy (wr.setCell ⟨g, k, none⟩ (.int .u8 77)) (fun j => ((E j ∨ j = w.heap.size) ∨ w1.heap.size ≤ j ∧ j < w2.heap.size)) x d r PL c ol P c o w.heap.size q :=
        ⟨hD.jg.keep ((Fr.refl _ wr).setCell (p := ⟨g, k, none⟩) (.inl (.inr ⟨hg1, hgb⟩)) _) (fun j e => .inl e), (Below.heap_setCell _ _ _ _ (by simpa using Ne.symm hgx)).trans hD.wx, (Below.heap_setCell _ _ _ _ (by simpa using Ne.symm hgy)).trans hD.bx, hD.ex, hD.ey⟩
      have hF2 := hF.setCell (p := ⟨g, k, none⟩) (.inr (by show w.heap.size ≤ g; omega)) (.int .u8 77)
      have HX := hide2 (And.intro (show ∃ zs' : List Int, zs'.length = zs.length ∧ Own (wr.setCell ⟨g, k, none⟩ (.int .u8 77)) w1.heap.size (.slice (some ⟨g, 0, none⟩) zs.length cb) zs' from ⟨_, List.length_set, hO2⟩) (And.intro hD2 hF2))
      have hkL2 : (k : Int) < (zs.length : Int) := by omega
      clear hz2 hO2 hD hD2 hF hF2
      go_wp2
      go_roundw
      case rel => exact ⟨k + 1, by omega, by go_num, HX.out⟩
      case measure => simp [intOf]; omega
    · obtain rfl : L = k := by omega
      obtain ⟨s1, s2, s3, s4, s5, s6⟩ := hD.six
      have HD := hide2 hD.drew
      have HF := hide2 (hF.drewN 1)
      have HSLr : Hid (Sl wr.drew q.bo q.bl q.bc q.bs) := hide2 (HSL.out.frX (hF.drewN 1) (fun hl b off e => by
        obtain ⟨e1, e2⟩ := HQE.out hl b off e
        rintro (h | h)
        · exact h e1
        · exact e2 h))
      have HJR : Hid (Calls Try.prog 29 #[.pointer (some ⟨r, 0, none⟩), .string q.name, .slice q.bo q.bl q.bc] wr.drew fun e w' => ∃ v, e = .returned v ∧ v = .int .i64 av ∧ Jg w' (fun j => ((E j ∨ j = w.heap.size) ∨ w1.heap.size ≤ j ∧ j < w2.heap.size)) d r PL c ol PL c ol ∧ Fr (fun j => ¬ ((E j ∨ j = w.heap.size) ∨ w1.heap.size ≤ j ∧ j < w2.heap.size)) wr.drew w') := hide2 (by
        have := jr_append HD.out.jg q.name hs q.bo q.bl q.bc q.bs HSLr.out (fun hl b off e => .inl (.inl (HQE.out hl b off e).1))
        rw [HANS.out, HLEF.out, HOFF.out] at this
        exact this)
      clear hz2 hD hF
      go_wp2
      refine wp_region_noPanic ?_
      refine wp_region_held_drew (S := (fun u : World => u.cell? ⟨x, 0, none⟩ = some (.pointer (some ⟨d, 0, none⟩)) ∧ u.cell? ⟨x, 1, none⟩ = some (.pointer (some ⟨r, 0, none⟩)) ∧ u.cell? ⟨w.heap.size, 1, none⟩ = some (.string q.name) ∧ u.cell? ⟨w.heap.size, 2, none⟩ = some (.string q.to) ∧ u.cell? ⟨w.heap.size, 3, none⟩ = some (.slice q.bo q.bl q.bc) ∧ u.cell? ⟨w.heap.size, 4, none⟩ = some (.int .i64 q.n))) (by kernel_rfl) (⟨s1, s2, s3, s4, s5, s6⟩) (fun hHeld => ?_)
      refine wpAnyH_take (i := 0) (oi := { dst := some 40, op := _, type := _, pos := _, after := _, guard := _ }) (v := ?_) rfl (by kernel_rfl) (by kernel_rfl) (by kernel_rfl) (fun _ _ _ h => h) (Or.inl ⟨by rfl, ?_⟩) (by assumption) ?_
      rotate_left 1
      · intro u hSw; obtain ⟨s1, s2, s3, s4, s5, s6⟩ := hSw; go_simp; try with_reducible rfl
      try simp only [Act.put, List.setIfInBounds_toArray, List.set_cons_zero, List.set_cons_succ]
      refine wpAnyH_take (i := 1) (oi := { dst := some 41, op := _, type := _, pos := _, after := _, guard := _ }) (v := ?_) rfl (by kernel_rfl) (by kernel_rfl) (by kernel_rfl) (fun _ _ _ h => h) (Or.inl ⟨by rfl, ?_⟩) (by assumption) ?_
      rotate_left 1
      · intro u hSw; obtain ⟨s1, s2, s3, s4, s5, s6⟩ := hSw; go_simp; try with_reducible rfl
      try simp only [Act.put, List.setIfInBounds_toArray, List.set_cons_zero, List.set_cons_succ]
      refine wpAnyH_take (i := 2) (oi := { dst := some 42, op := _, type := _, pos := _, after := _, guard := _ }) (v := ?_) rfl (by kernel_rfl) (by kernel_rfl) (by kernel_rfl) (fun _ _ _ h => h) (Or.inl ⟨by rfl, ?_⟩) (by assumption) ?_
      rotate_left 1
      · intro u hSw; obtain ⟨s1, s2, s3, s4, s5, s6⟩ := hSw; go_simp; try with_reducible rfl
      try simp only [Act.put, List.setIfInBounds_toArray, List.set_cons_zero, List.set_cons_succ]
      refine wpAnyH_take (i := 3) (oi := { dst := some 43, op := _, type := _, pos := _, after := _, guard := _ }) (v := ?_) rfl (by kernel_rfl) (by kernel_rfl) (by kernel_rfl) (fun _ _ _ h => h) (Or.inl ⟨by rfl, ?_⟩) (by assumption) ?_
      rotate_left 1
      · intro u hSw; obtain ⟨s1, s2, s3, s4, s5, s6⟩ := hSw; go_simp; try with_reducible rfl
      try simp only [Act.put, List.setIfInBounds_toArray, List.set_cons_zero, List.set_cons_succ]
      refine wpAnyH_take (i := 4) (oi := { dst := some 44, op := _, type := _, pos := _, after := _, guard := _ }) (v := ?_) rfl (by kernel_rfl) (by kernel_rfl) (by kernel_rfl) (fun _ _ _ h => h) (Or.inl ⟨by rfl, ?_⟩) (by assumption) ?_
      rotate_left 1
      · intro u hSw; obtain ⟨s1, s2, s3, s4, s5, s6⟩ := hSw; go_simp; try with_reducible rfl
      try simp only [Act.put, List.setIfInBounds_toArray, List.set_cons_zero, List.set_cons_succ]
      refine wpAnyH_take (i := 5) (oi := { dst := some 45, op := _, type := _, pos := _, after := _, guard := _ }) (v := ?_) rfl (by kernel_rfl) (by kernel_rfl) (by kernel_rfl) (fun _ _ _ h => h) (Or.inl ⟨by rfl, ?_⟩) (by assumption) ?_
      rotate_left 1
      · intro u hSw; obtain ⟨s1, s2, s3, s4, s5, s6⟩ := hSw; go_simp; try with_reducible rfl
      try simp only [Act.put, List.setIfInBounds_toArray, List.set_cons_zero, List.set_cons_succ]
      refine wpAnyH_take (i := 6) (oi := { dst := some 46, op := _, type := _, pos := _, after := _, guard := _ }) (v := ?_) rfl (by kernel_rfl) (by kernel_rfl) (by kernel_rfl) (fun _ _ _ h => h) (Or.inl ⟨by rfl, ?_⟩) (by assumption) ?_
      rotate_left 1
      · intro u hSw; obtain ⟨s1, s2, s3, s4, s5, s6⟩ := hSw; go_simp; try with_reducible rfl
      try simp only [Act.put, List.setIfInBounds_toArray, List.set_cons_zero, List.set_cons_succ]
      refine wpAnyH_take (i := 7) (oi := { dst := some 47, op := _, type := _, pos := _, after := _, guard := _ }) (v := ?_) rfl (by kernel_rfl) (by kernel_rfl) (by kernel_rfl) (fun _ _ _ h => h) (Or.inl ⟨by rfl, ?_⟩) (by assumption) ?_
      rotate_left 1
      · intro u hSw; obtain ⟨s1, s2, s3, s4, s5, s6⟩ := hSw; go_simp; try with_reducible rfl
      try simp only [Act.put, List.setIfInBounds_toArray, List.set_cons_zero, List.set_cons_succ]
      refine wpAnyH_take (i := 8) (oi := { dst := some 48, op := _, type := _, pos := _, after := _, guard := _ }) (v := ?_) rfl (by kernel_rfl) (by kernel_rfl) (by kernel_rfl) (fun _ _ _ h => h) (Or.inl ⟨by rfl, ?_⟩) (by assumption) ?_
      rotate_left 1
      · intro u hSw; obtain ⟨s1, s2, s3, s4, s5, s6⟩ := hSw; go_simp; try with_reducible rfl
      try simp only [Act.put, List.setIfInBounds_toArray, List.set_cons_zero, List.set_cons_succ]
      refine wpAnyH_ready (rs := [9]) (by kernel_rfl) (by simp) ?_
      refine AllReadyH.cons (o := { dst := some 49, op := _, type := _, pos := _, after := _, guard := _ }) rfl (fun K hK => ?_) AllReadyH.nil
      go_simp
      refine HJR.out.mono ?_
      rintro e w4 ⟨v, rfl, rfl, hj4, F4⟩
      have HD4 := hide2 (HD.out.next hj4 F4)
      have HF4 := hide2 F4
      clear hj4 F4
      go_wp2_with fail
      refine hK.out _ _ (HD4.out.six) (fun hHeld => ?_)
      clear hK K
      try simp only [Act.put, List.setIfInBounds_toArray, List.set_cons_zero, List.set_cons_succ]
      refine wpAnyH_take (i := 10) (oi := { dst := some 50, op := _, type := _, pos := _, after := _, guard := _ }) (v := ?_) rfl (by kernel_rfl) (by kernel_rfl) (by kernel_rfl) (fun _ _ _ h => h) (Or.inl ⟨by rfl, ?_⟩) (by assumption) ?_
      rotate_left 1
      · intro u hSw; obtain ⟨s1, s2, s3, s4, s5, s6⟩ := hSw; go_simp; try with_reducible rfl
      try simp only [Act.put, List.setIfInBounds_toArray, List.set_cons_zero, List.set_cons_succ]
      refine wpAnyH_take (i := 11) (oi := { dst := some 4, op := _, type := _, pos := _, after := _, guard := _ }) (v := ?_) rfl (by kernel_rfl) (by kernel_rfl) (by kernel_rfl) (fun _ _ _ h => h) (Or.inl ⟨by rfl, ?_⟩) (by assumption) ?_
      rotate_left 1
      · intro u hSw; obtain ⟨s1, s2, s3, s4, s5, s6⟩ := hSw; go_simp; try with_reducible rfl
      try simp only [Act.put, List.setIfInBounds_toArray, List.set_cons_zero, List.set_cons_succ]
      refine wpAnyH_done (by kernel_rfl) ?_ _
      refine NoPanic.normal ?_
      go_wp2
      go_ret
      refine ⟨rfl, d, r, _, _, _, HD4.out.jg.less (fun j e => .inl (.inl e)), HD4.out.wx, ?_⟩
      exact HF.out.trans (HF4.out.mono (G := fun j => ¬ E j ∨ j = x) (fun j _ hj => .inl (fun e => hj (.inl (.inl e))))) (fun j hj => .inl hj)
end
end Go.Proofs.Ytolaagbdnchhiaa
