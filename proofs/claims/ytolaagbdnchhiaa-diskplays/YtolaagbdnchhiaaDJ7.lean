/-
  'does' of the kind 8: both disks crash. (Printed by gen_dj7.py.)
-/
import Derived.Test.YtolaagbdnchhiaaDJ6
set_option linter.unusedVariables false
set_option linter.unusedSimpArgs false
namespace Go.Proofs.Ytolaagbdnchhiaa
open Go.RowKit Go.Maps

/-- A disk of the program's that a crash has left; E: blocks that are not its own. -/
def Lone (w : World) (E : Nat → Prop) (d : Nat) (P : PD) : Prop := ∃ K, Land.DR w K d P 0 false false ∧ ∀ j, (K j ∨ j = d) → j < w.heap.size ∧ ¬ E j
theorem Lone.keep {w w' : World} {E : Nat → Prop} {d : Nat} {P : PD} (h : Lone w E d P) (F : Fr E w w') : Lone w' E d P := by
  obtain ⟨K, h1, h2⟩ := h
  exact ⟨K, h1.keep ⟨fun j hj q => F.block j hj fun e => (h2 j (q.elim .inr .inl)).2 e⟩, fun j hj => ⟨Nat.lt_of_lt_of_le (h2 j hj).1 F.size, (h2 j hj).2⟩⟩
theorem Lone.less {w : World} {E E' : Nat → Prop} {d : Nat} {P : PD} (h : Lone w E d P) (hE : ∀ j, E' j → E j) : Lone w E' d P := by
  obtain ⟨K, h1, h2⟩ := h
  exact ⟨K, h1, fun j hj => ⟨(h2 j hj).1, fun e => (h2 j hj).2 (hE j e)⟩⟩
theorem Jg.els {w : World} {E : Nat → Prop} {d r : Nat} {P Q : PD} {c c' : Int} {o o' : Bool} (h : Jg w E d r P c o Q c' o') : ∀ j, E j → j < w.heap.size := fun j e => by
  obtain ⟨⟨K, κ, ca, g1, g2, g3, g4, g5⟩, -, -⟩ := h
  exact (g5 j e).2
theorem jp_crash {w : World} {E : Nat → Prop} {d r : Nat} {P Q : PD} {c c' : Int} {o o' : Bool} (h : Jg w E d r P c o Q c' o') (ke di te : Int) :
    Calls Try.prog 21 #[.pointer (some ⟨d, 0, none⟩), .agg #[.int .i64 ke, .int .i64 di, .int .i64 te]] w fun e w' => ∃ d', e = .returned (.pointer (some ⟨d', 0, none⟩)) ∧ Jg w' E d r P c o Q c' o' ∧ Lone w' (fun j => j < w.heap.size) d' (Land.crashed P ke di te) ∧ Below w.heap.size w w' := by
  have h0 := h
  obtain ⟨⟨K, κ, ca, h1, h2, h3, h4, h5⟩, hp, hq⟩ := h
  refine (Land.dr_crash h1 hp ke di te).mono ?_
  rintro e w' ⟨d', rfl, hd, hD, hB⟩
  obtain ⟨_, _, _, hk⟩ := hD.dk
  have hlt := hk.lt
  refine ⟨d', rfl, h0.keep (Fr.below hB) (fun j e => .inl e), ⟨fun j => w.heap.size ≤ j ∧ j < w'.heap.size, hD.mono (fun j hj q => ⟨q, hj⟩), fun j hj => ?_⟩, hB⟩
  rcases hj with hj | rfl
  · exact ⟨hj.2, by omega⟩
  · exact ⟨hlt, by omega⟩
theorem jr_crash {w : World} {E E2 : Nat → Prop} {d r d1 : Nat} {P Q P1 : PD} {c c' : Int} {o o' : Bool} (h : Jg w E d r P c o Q c' o') (hL : Lone w E2 d1 P1) (hP1 : P1.inv) (hE2 : ∀ j, E2 j → j < w.heap.size) (ke di te : Int) :
    Calls Try.prog 39 #[.pointer (some ⟨r, 0, none⟩), .agg #[.int .i64 ke, .int .i64 di, .int .i64 te]] w fun e w' => ∃ r', e = .returned (.pointer (some ⟨r', 0, none⟩)) ∧ Jg w' E2 d1 r' P1 (-1) false (Land.crashed Q ke di te) (-1) false ∧ Below w.heap.size w w' := by
  have h0 := h
  obtain ⟨⟨K, κ, ca, h1, ⟨vF, vO, vL, vN, φ, β, h2⟩, h3, h4, h5⟩, hp, hq⟩ := h
  refine (ref_crash0 h2 hq ke di te).mono ?_
  rintro e w' ⟨r', rfl, hr, ⟨κ', hR, hκ⟩, hB⟩
  obtain ⟨K1, g1, g2⟩ := hL.keep (Fr.below hB)
  obtain ⟨K0, g01, g02⟩ := hL
  have hz := hB.size
  refine ⟨r', rfl, ⟨⟨K0, κ', 0, ?_, hR, (fun h => absurd h (by omega)), fun j hj => ?_, fun j e => ?_⟩, hP1, Land.inv_crashed hq ke di te⟩, hB⟩
  · exact g01.keep ⟨fun j hj _ => hB.block j hj⟩
  · have := g02 j hj
    exact ⟨by omega, hκ j (by omega), this.2⟩
  · have := hE2 j e
    exact ⟨hκ j (by omega), by omega⟩
theorem Wx.set0 {w : World} {x d r : Nat} (h : Wx w x d r) (d' : Nat) : Wx (w.setCell ⟨x, 0, none⟩ (.pointer (some ⟨d', 0, none⟩))) x d' r := by
  unfold Wx at *
  rw [Go.Joins.block_setCell h]
  rfl
theorem Wx.set1 {w : World} {x d r : Nat} (h : Wx w x d r) (r' : Nat) : Wx (w.setCell ⟨x, 1, none⟩ (.pointer (some ⟨r', 0, none⟩))) x d r' := by
  unfold Wx at *
  rw [Go.Joins.block_setCell h]
  rfl

section
variable {w : World} {E : Nat → Prop} {x d r : Nat} {P : PD} {c : Int} {o : Bool}

set_option maxRecDepth 100000 in
set_option maxHeartbeats 4000000 in
theorem jd_crash (h : Jg w E d r P c o P c o) (hx : Wx w x d r) (hE : E x) (q : OpR) (hk : pk q.kind = 8) (hlo : -9223372036854775808 ≤ q.kind) (hhi : q.kind ≤ 9223372036854775807)  :
    Calls Try.prog 11 #[.pointer (some ⟨x, 0, none⟩), q.val] w fun e w' => e = .returned (.bool true) ∧ Dres w w' E x := by
  have D1 := Dy.start h hx hE q
  obtain ⟨b0, -, -, -, -, b5, b6, b7⟩ := D1.bx.cells
  have hyx : x ≠ w.heap.size := by have := hx.lt; omega
  have hxl := hx.lt
  have HP := hide2 (pick_any q.kind (w.alloc (.cells #[.int .i64 q.kind, .string q.name, .string q.to, .slice q.bo q.bl q.bc, .int .i64 q.n, .int .i64 q.k1, .int .i64 q.k2, .int .i64 q.k3] 36)) hlo hhi)
  rw [hk] at HP
  have F1 : Fr (fun j => ¬ E j ∨ j = x) w (w.alloc (.cells #[.int .i64 q.kind, .string q.name, .string q.to, .slice q.bo q.bl q.bc, .int .i64 q.n, .int .i64 q.k1, .int .i64 q.k2, .int .i64 q.k3] 36)) := (Fr.refl _ w).alloc _
  obtain ⟨s1, s2, -, -, -, -⟩ := D1.six
  have sf := Go.Joins.unfrozen_of_block D1.wx 0
  have hpi := h.pi
  have hci := Land.inv_crashed hpi q.k1 q.k2 q.k3
  have hel : ∀ j, E j → j < w.heap.size := fun j e => by
    obtain ⟨⟨K, κ, ca, g1, g2, g3, g4, g5⟩, -, -⟩ := h
    exact (g5 j e).2
  unfold OpR.val
  generalize hW : w.alloc (.cells #[.int .i64 q.kind, .string q.name, .string q.to, .slice q.bo q.bl q.bc, .int .i64 q.n, .int .i64 q.k1, .int .i64 q.k2, .int .i64 q.k3] 36) = W at *
  go_enter Try.func11, Try.ntmps11
  go_wp2_with fail
  try rw [hW]
  refine HP.out.mono ?_
  rintro e w1 ⟨rfl, rfl⟩
  clear HP
  have HD1 := hide2 D1.drew
  have HF1 := hide2 F1
  have HEL := hide2 hel
  clear D1 F1 hel hW h hx
  go_wp2
  refine wp_region_noPanic ?_
  refine wp_region_held_drew (S := (fun u : World => u.cell? ⟨w.heap.size, 5, none⟩ = some (.int .i64 q.k1) ∧ u.cell? ⟨w.heap.size, 6, none⟩ = some (.int .i64 q.k2) ∧ u.cell? ⟨w.heap.size, 7, none⟩ = some (.int .i64 q.k3))) (by kernel_rfl) (⟨b5, b6, b7⟩) (fun hHeld => ?_)
  refine wpAnyH_take (i := 0) (oi := { dst := some 206, op := _, type := _, pos := _, after := _, guard := _ }) (v := ?_) rfl (by kernel_rfl) (by kernel_rfl) (by kernel_rfl) (fun _ _ _ h => h) (Or.inl ⟨by rfl, ?_⟩) (by assumption) ?_
  rotate_left 1
  · intro u hSw; obtain ⟨s1, s2, s3⟩ := hSw; go_simp; try with_reducible rfl
  try simp only [Act.put, List.setIfInBounds_toArray, List.set_cons_zero, List.set_cons_succ]
  refine wpAnyH_take (i := 1) (oi := { dst := some 207, op := _, type := _, pos := _, after := _, guard := _ }) (v := ?_) rfl (by kernel_rfl) (by kernel_rfl) (by kernel_rfl) (fun _ _ _ h => h) (Or.inl ⟨by rfl, ?_⟩) (by assumption) ?_
  rotate_left 1
  · intro u hSw; obtain ⟨s1, s2, s3⟩ := hSw; go_simp; try with_reducible rfl
  try simp only [Act.put, List.setIfInBounds_toArray, List.set_cons_zero, List.set_cons_succ]
  refine wpAnyH_take (i := 2) (oi := { dst := some 208, op := _, type := _, pos := _, after := _, guard := _ }) (v := ?_) rfl (by kernel_rfl) (by kernel_rfl) (by kernel_rfl) (fun _ _ _ h => h) (Or.inl ⟨by rfl, ?_⟩) (by assumption) ?_
  rotate_left 1
  · intro u hSw; obtain ⟨s1, s2, s3⟩ := hSw; go_simp; try with_reducible rfl
  try simp only [Act.put, List.setIfInBounds_toArray, List.set_cons_zero, List.set_cons_succ]
  refine wpAnyH_take (i := 3) (oi := { dst := some 209, op := _, type := _, pos := _, after := _, guard := _ }) (v := ?_) rfl (by kernel_rfl) (by kernel_rfl) (by kernel_rfl) (fun _ _ _ h => h) (Or.inl ⟨by rfl, ?_⟩) (by assumption) ?_
  rotate_left 1
  · intro u hSw; obtain ⟨s1, s2, s3⟩ := hSw; go_simp; try with_reducible rfl
  try simp only [Act.put, List.setIfInBounds_toArray, List.set_cons_zero, List.set_cons_succ]
  refine wpAnyH_take (i := 5) (oi := { dst := some 211, op := _, type := _, pos := _, after := _, guard := _ }) (v := ?_) rfl (by kernel_rfl) (by kernel_rfl) (by kernel_rfl) (fun _ _ _ h => h) (Or.inl ⟨by rfl, ?_⟩) (by assumption) ?_
  rotate_left 1
  · intro u hSw; obtain ⟨s1, s2, s3⟩ := hSw; go_simp; try with_reducible rfl
  try simp only [Act.put, List.setIfInBounds_toArray, List.set_cons_zero, List.set_cons_succ]
  refine wpAnyH_take (i := 6) (oi := { dst := some 212, op := _, type := _, pos := _, after := _, guard := _ }) (v := ?_) rfl (by kernel_rfl) (by kernel_rfl) (by kernel_rfl) (fun _ _ _ h => h) (Or.inl ⟨by rfl, ?_⟩) (by assumption) ?_
  rotate_left 1
  · intro u hSw; obtain ⟨s1, s2, s3⟩ := hSw; go_simp; try with_reducible rfl
  try simp only [Act.put, List.setIfInBounds_toArray, List.set_cons_zero, List.set_cons_succ]
  refine wpAnyH_ready (rs := [4]) (by kernel_rfl) (by simp) ?_
  refine AllReadyH.cons (o := { dst := some 210, op := _, type := _, pos := _, after := _, guard := _ }) rfl (fun K hK => ?_) AllReadyH.nil
  go_simp
  refine hK.out _ _ (hHeld) (fun hHeld => ?_)
  clear hK K
  try simp only [Act.put, List.setIfInBounds_toArray, List.set_cons_zero, List.set_cons_succ]
  refine wpAnyH_ready (rs := [7]) (by kernel_rfl) (by simp) ?_
  refine AllReadyH.cons (o := { dst := some 213, op := _, type := _, pos := _, after := _, guard := _ }) rfl (fun K hK => ?_) AllReadyH.nil
  go_simp
  refine (jp_crash HD1.out.jg q.k1 q.k2 q.k3).mono ?_
  rintro e w2 ⟨d1, rfl, hj2, hL2, B2⟩
  have hD2 := HD1.out.next hj2 (Fr.below B2)
  have HD2 := hide2 hD2
  have HL2 := hide2 hL2
  have HB2 := hide2 B2
  have t1 := hD2.wx.cells.1
  have tf := Go.Joins.unfrozen_of_block hD2.wx 0
  obtain ⟨-, -, -, -, -, c5, c6, c7⟩ := hD2.bx.cells
  clear hj2 hL2 B2 hD2
  go_wp2_with fail
  refine hK.out _ _ (⟨c5, c6, c7⟩) (fun hHeld => ?_)
  clear hK K
  try simp only [Act.put, List.setIfInBounds_toArray, List.set_cons_zero, List.set_cons_succ]
  refine wpAnyH_take (i := 8) (oi := { dst := some 214, op := _, type := _, pos := _, after := _, guard := _ }) (v := ?_) rfl (by kernel_rfl) (by kernel_rfl) (by kernel_rfl) (fun _ _ _ h => h) (Or.inl ⟨by rfl, ?_⟩) (by assumption) ?_
  rotate_left 1
  · intro u hSw; obtain ⟨s1, s2, s3⟩ := hSw; go_simp; try with_reducible rfl
  try simp only [Act.put, List.setIfInBounds_toArray, List.set_cons_zero, List.set_cons_succ]
  refine wpAnyH_take (i := 9) (oi := { dst := some 215, op := _, type := _, pos := _, after := _, guard := _ }) (v := ?_) rfl (by kernel_rfl) (by kernel_rfl) (by kernel_rfl) (fun _ _ _ h => h) (Or.inl ⟨by rfl, ?_⟩) (by assumption) ?_
  rotate_left 1
  · intro u hSw; obtain ⟨s1, s2, s3⟩ := hSw; go_simp; try with_reducible rfl
  try simp only [Act.put, List.setIfInBounds_toArray, List.set_cons_zero, List.set_cons_succ]
  refine wpAnyH_ready (rs := [10]) (by kernel_rfl) (by simp) ?_
  refine AllReadyH.cons (o := { dst := none, op := _, type := _, pos := _, after := _, guard := _ }) rfl (fun K hK => ?_) AllReadyH.nil
  go_simp
  have hD2 := HD2.out
  have hW3 := hD2.wx.set0 d1
  have hF3 : Fr (fun j => j = x) w2 (w2.setCell ⟨x, 0, none⟩ (.pointer (some ⟨d1, 0, none⟩))) := (Fr.refl (fun j => j = x) w2).setCell (p := ⟨x, 0, none⟩) (.inl rfl) _
  have hB3 : Bx (w2.setCell ⟨x, 0, none⟩ (.pointer (some ⟨d1, 0, none⟩))) w.heap.size q := (hF3.block _ (Array.getElem?_eq_some_iff.1 hD2.bx).1 (fun e => hyx e.symm)).trans hD2.bx
  have hJ3 := hD2.jg.keep (hF3.mono (G := fun j => E j ∨ j = w.heap.size) (fun j _ e => by subst e; exact hD2.ex)) (fun j e => .inl e)
  have hL3 := (HL2.out.less (E' := fun j => E j ∨ j = w.heap.size) (fun j e => HD1.out.jg.els j e)).keep (hF3.mono (G := fun j => E j ∨ j = w.heap.size) (fun j _ e => by subst e; exact hD2.ex))
  obtain ⟨-, -, -, -, -, e5, e6, e7⟩ := hB3.cells
  refine hK.out _ _ (⟨e5, e6, e7⟩) (fun hHeld => ?_)
  clear hK K
  try simp only [Act.put, List.setIfInBounds_toArray, List.set_cons_zero, List.set_cons_succ]
  refine wpAnyH_done (by kernel_rfl) ?_ _
  refine NoPanic.normal ?_
  clear hHeld e5 e6 e7 c5 c6 c7 b5 b6 b7 b0 t1 tf s1 s2 sf hD2
  generalize w2.setCell ⟨x, 0, none⟩ (.pointer (some ⟨d1, 0, none⟩)) = V at *
  have HF3 := hide2 hF3
  have HJ3 := hide2 (hJ3.keep ((Fr.refl _ V).drewN 1) (fun j e => .inl e))
  have HL3 := hide2 (hL3.keep ((Fr.refl _ V).drewN 1))
  have hW3' : Wx V.drew x d1 r := hW3
  have hB3' : Bx V.drew w.heap.size q := hB3
  obtain ⟨s1, s2⟩ := hW3.cells
  obtain ⟨-, -, -, -, -, b5, b6, b7⟩ := hB3.cells
  have HW3 := hide2 hW3'
  have HB3 := hide2 hB3'
  clear hF3 hJ3 hL3 hW3 hB3 hW3' hB3'
  go_wp2
  refine wp_region_noPanic ?_
  refine wp_region_held_drew (S := (fun u : World => u.cell? ⟨w.heap.size, 5, none⟩ = some (.int .i64 q.k1) ∧ u.cell? ⟨w.heap.size, 6, none⟩ = some (.int .i64 q.k2) ∧ u.cell? ⟨w.heap.size, 7, none⟩ = some (.int .i64 q.k3))) (by kernel_rfl) (⟨b5, b6, b7⟩) (fun hHeld => ?_)
  refine wpAnyH_take (i := 0) (oi := { dst := some 216, op := _, type := _, pos := _, after := _, guard := _ }) (v := ?_) rfl (by kernel_rfl) (by kernel_rfl) (by kernel_rfl) (fun _ _ _ h => h) (Or.inl ⟨by rfl, ?_⟩) (by assumption) ?_
  rotate_left 1
  · intro u hSw; obtain ⟨s1, s2, s3⟩ := hSw; go_simp; try with_reducible rfl
  try simp only [Act.put, List.setIfInBounds_toArray, List.set_cons_zero, List.set_cons_succ]
  refine wpAnyH_take (i := 1) (oi := { dst := some 217, op := _, type := _, pos := _, after := _, guard := _ }) (v := ?_) rfl (by kernel_rfl) (by kernel_rfl) (by kernel_rfl) (fun _ _ _ h => h) (Or.inl ⟨by rfl, ?_⟩) (by assumption) ?_
  rotate_left 1
  · intro u hSw; obtain ⟨s1, s2, s3⟩ := hSw; go_simp; try with_reducible rfl
  try simp only [Act.put, List.setIfInBounds_toArray, List.set_cons_zero, List.set_cons_succ]
  refine wpAnyH_take (i := 2) (oi := { dst := some 218, op := _, type := _, pos := _, after := _, guard := _ }) (v := ?_) rfl (by kernel_rfl) (by kernel_rfl) (by kernel_rfl) (fun _ _ _ h => h) (Or.inl ⟨by rfl, ?_⟩) (by assumption) ?_
  rotate_left 1
  · intro u hSw; obtain ⟨s1, s2, s3⟩ := hSw; go_simp; try with_reducible rfl
  try simp only [Act.put, List.setIfInBounds_toArray, List.set_cons_zero, List.set_cons_succ]
  refine wpAnyH_take (i := 3) (oi := { dst := some 219, op := _, type := _, pos := _, after := _, guard := _ }) (v := ?_) rfl (by kernel_rfl) (by kernel_rfl) (by kernel_rfl) (fun _ _ _ h => h) (Or.inl ⟨by rfl, ?_⟩) (by assumption) ?_
  rotate_left 1
  · intro u hSw; obtain ⟨s1, s2, s3⟩ := hSw; go_simp; try with_reducible rfl
  try simp only [Act.put, List.setIfInBounds_toArray, List.set_cons_zero, List.set_cons_succ]
  refine wpAnyH_take (i := 5) (oi := { dst := some 221, op := _, type := _, pos := _, after := _, guard := _ }) (v := ?_) rfl (by kernel_rfl) (by kernel_rfl) (by kernel_rfl) (fun _ _ _ h => h) (Or.inl ⟨by rfl, ?_⟩) (by assumption) ?_
  rotate_left 1
  · intro u hSw; obtain ⟨s1, s2, s3⟩ := hSw; go_simp; try with_reducible rfl
  try simp only [Act.put, List.setIfInBounds_toArray, List.set_cons_zero, List.set_cons_succ]
  refine wpAnyH_take (i := 6) (oi := { dst := some 222, op := _, type := _, pos := _, after := _, guard := _ }) (v := ?_) rfl (by kernel_rfl) (by kernel_rfl) (by kernel_rfl) (fun _ _ _ h => h) (Or.inl ⟨by rfl, ?_⟩) (by assumption) ?_
  rotate_left 1
  · intro u hSw; obtain ⟨s1, s2, s3⟩ := hSw; go_simp; try with_reducible rfl
  try simp only [Act.put, List.setIfInBounds_toArray, List.set_cons_zero, List.set_cons_succ]
  refine wpAnyH_ready (rs := [4]) (by kernel_rfl) (by simp) ?_
  refine AllReadyH.cons (o := { dst := some 220, op := _, type := _, pos := _, after := _, guard := _ }) rfl (fun K hK => ?_) AllReadyH.nil
  go_simp
  refine hK.out _ _ (hHeld) (fun hHeld => ?_)
  clear hK K
  try simp only [Act.put, List.setIfInBounds_toArray, List.set_cons_zero, List.set_cons_succ]
  refine wpAnyH_ready (rs := [7]) (by kernel_rfl) (by simp) ?_
  refine AllReadyH.cons (o := { dst := some 223, op := _, type := _, pos := _, after := _, guard := _ }) rfl (fun K hK => ?_) AllReadyH.nil
  go_simp
  refine (jr_crash HJ3.out HL3.out hci (fun j e => HJ3.out.els j e) q.k1 q.k2 q.k3).mono ?_
  rintro e w4 ⟨r1, rfl, hj4, B4⟩
  have hW4 : Wx w4 x d1 r := (B4.block x HW3.out.lt).trans HW3.out
  have hB4 : Bx w4 w.heap.size q := (B4.block _ (Array.getElem?_eq_some_iff.1 HB3.out).1).trans HB3.out
  have HJ4 := hide2 hj4
  have HB4 := hide2 B4
  have t1 := hW4.cells.2
  have tf := Go.Joins.unfrozen_of_block hW4 1
  obtain ⟨-, -, -, -, -, c5, c6, c7⟩ := hB4.cells
  clear hj4 B4
  go_wp2_with fail
  refine hK.out _ _ (⟨c5, c6, c7⟩) (fun hHeld => ?_)
  clear hK K
  try simp only [Act.put, List.setIfInBounds_toArray, List.set_cons_zero, List.set_cons_succ]
  refine wpAnyH_take (i := 8) (oi := { dst := some 224, op := _, type := _, pos := _, after := _, guard := _ }) (v := ?_) rfl (by kernel_rfl) (by kernel_rfl) (by kernel_rfl) (fun _ _ _ h => h) (Or.inl ⟨by rfl, ?_⟩) (by assumption) ?_
  rotate_left 1
  · intro u hSw; obtain ⟨s1, s2, s3⟩ := hSw; go_simp; try with_reducible rfl
  try simp only [Act.put, List.setIfInBounds_toArray, List.set_cons_zero, List.set_cons_succ]
  refine wpAnyH_take (i := 9) (oi := { dst := some 225, op := _, type := _, pos := _, after := _, guard := _ }) (v := ?_) rfl (by kernel_rfl) (by kernel_rfl) (by kernel_rfl) (fun _ _ _ h => h) (Or.inl ⟨by rfl, ?_⟩) (by assumption) ?_
  rotate_left 1
  · intro u hSw; obtain ⟨s1, s2, s3⟩ := hSw; go_simp; try with_reducible rfl
  try simp only [Act.put, List.setIfInBounds_toArray, List.set_cons_zero, List.set_cons_succ]
  refine wpAnyH_ready (rs := [10]) (by kernel_rfl) (by simp) ?_
  refine AllReadyH.cons (o := { dst := none, op := _, type := _, pos := _, after := _, guard := _ }) rfl (fun K hK => ?_) AllReadyH.nil
  go_simp
  have hW5 := hW4.set1 r1
  have hF5 : Fr (fun j => j = x) w4 (w4.setCell ⟨x, 1, none⟩ (.pointer (some ⟨r1, 0, none⟩))) := (Fr.refl (fun j => j = x) w4).setCell (p := ⟨x, 1, none⟩) (.inl rfl) _
  have hB5 : Bx (w4.setCell ⟨x, 1, none⟩ (.pointer (some ⟨r1, 0, none⟩))) w.heap.size q := (hF5.block _ (Array.getElem?_eq_some_iff.1 hB4).1 (fun e => hyx e.symm)).trans hB4
  have hJ5 := HJ4.out.keep (hF5.mono (G := fun j => E j ∨ j = w.heap.size) (fun j _ e => by subst e; exact .inl hE)) (fun j e => .inl e)
  obtain ⟨-, -, -, -, -, e5, e6, e7⟩ := hB5.cells
  refine hK.out _ _ (⟨e5, e6, e7⟩) (fun hHeld => ?_)
  clear hK K
  try simp only [Act.put, List.setIfInBounds_toArray, List.set_cons_zero, List.set_cons_succ]
  refine wpAnyH_done (by kernel_rfl) ?_ _
  refine NoPanic.normal ?_
  clear hHeld e5 e6 e7 c5 c6 c7 b5 b6 b7 t1 tf s1 s2
  generalize w4.setCell ⟨x, 1, none⟩ (.pointer (some ⟨r1, 0, none⟩)) = V5 at *
  have HF5 := hide2 hF5
  have HJ5 := hide2 hJ5
  have HW5 := hide2 hW5
  obtain ⟨s1, s2⟩ := hW5.cells
  clear hF5 hJ5 hW5 hB5 hW4 hB4
  go_wp2
  go_ret
  refine ⟨rfl, d1, r1, _, _, _, HJ5.out.less (fun j e => .inl e), HW5.out, ?_⟩
  have F2 : Fr (fun j => ¬ E j ∨ j = x) _ V := (Fr.below HB2.out).trans HF3.out (fun j hj => .inl (.inr hj))
  have F5 : Fr (fun j => ¬ E j ∨ j = x) _ V5 := (Fr.below HB4.out).trans HF5.out (fun j hj => .inl (.inr hj))
  exact ((HF1.out.drewN 1).trans F2 (fun j hj => .inl hj)).trans (((Fr.refl _ V).drewN 1).trans F5 (fun j hj => .inl hj)) (fun j hj => .inl hj)
end
end Go.Proofs.Ytolaagbdnchhiaa
