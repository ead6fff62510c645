/-
  'does' of the kind 1. (Printed by gen_dj5.py.)
-/
import Derived.Test.YtolaagbdnchhiaaDJ4
set_option linter.unusedVariables false
set_option linter.unusedSimpArgs false
namespace Go.Proofs.Ytolaagbdnchhiaa
open Go.RowKit Go.Maps

theorem Dy.wide {w w' : World} {E : Nat → Prop} {x d r : Nat} {P : PD} {c : Int} {o : Bool} {Q : PD} {c' : Int} {o' : Bool} {y : Nat} {q : OpR} (h : Dy w E x d r P c o Q c' o' y q) (hb : Below w.heap.size w w') : Dy w' (fun j => E j ∨ w.heap.size ≤ j ∧ j < w'.heap.size) x d r P c o Q c' o' y q :=
  ⟨h.jg.keep (Fr.below hb) (fun j e => e), (hb.block x h.wx.lt).trans h.wx, (hb.block y (Array.getElem?_eq_some_iff.1 h.bx).1).trans h.bx, .inl h.ex, .inl h.ey⟩
theorem own_form {w : World} {base : Nat} {v : Value} {xs : List Int} (h : Own w base v xs) : ∃ ao cap, v = .slice ao xs.length cap := by
  rcases h.2 with ⟨rfl, h0⟩ | ⟨g, cap, cur, rfl, _⟩
  · exact ⟨none, 0, by rw [h0]⟩
  · exact ⟨_, cap, rfl⟩
theorem own_put {w : World} {base g cap k : Nat} {xs : List Int} (h : Own w base (.slice (some ⟨g, 0, none⟩) xs.length cap) xs) (y : Int) : Own (w.setCell ⟨g, k, none⟩ (.int .u8 y)) base (.slice (some ⟨g, 0, none⟩) xs.length cap) (xs.set k y) := by
  have := (World.ownsRow.stored h k (.int .u8 y)).1
  unfold Own
  rw [List.length_set]
  have e : bc (xs.set k y) = (bc xs).set k (.int .u8 y) := by simp [bc, List.map_set]
  rw [e]
  exact this
theorem own_cell {w : World} {base g cap k : Nat} {xs : List Int} (h : Own w base (.slice (some ⟨g, 0, none⟩) xs.length cap) xs) (hk : k < xs.length) : ∃ v, w.cell? ⟨g, k, none⟩ = some v ∧ w.frozen? ⟨g, k, none⟩ = false ∧ base ≤ g ∧ g < w.heap.size := by
  have h1 := World.ownsRow.cellAt h k (by omega)
  have hl : k < (bc xs).length := by rw [bc_length]; exact hk
  exact ⟨(bc xs)[k], h1.trans (List.getElem?_eq_getElem hl), World.ownsRow.frozenAt h k, (World.ownsRow.lt h g rfl).1, (World.ownsRow.lt h g rfl).2⟩

section
variable {w : World} {E : Nat → Prop} {x d r : Nat} {P : PD} {c : Int} {o : Bool}

set_option maxRecDepth 100000 in
set_option maxHeartbeats 8000000 in
theorem jd_read (h : Jg w E d r P c o P c o) (hx : Wx w x d r) (hE : E x) (q : OpR) (hk : pk q.kind = 1) (hlo : -9223372036854775808 ≤ q.kind) (hhi : q.kind ≤ 9223372036854775807) (hs : q.name.size ≤ maxLen) :
    Calls Try.prog 11 #[.pointer (some ⟨x, 0, none⟩), q.val] w fun e w' => e = .returned (.bool true) ∧ Dres w w' E x := by
  have D1 := Dy.start h hx hE q
  obtain ⟨b0, -⟩ := D1.bx.cells
  have hxl := hx.lt
  have HP := hide2 (pick_any q.kind (w.alloc (.cells #[.int .i64 q.kind, .string q.name, .string q.to, .slice q.bo q.bl q.bc, .int .i64 q.n, .int .i64 q.k1, .int .i64 q.k2, .int .i64 q.k3] 36)) hlo hhi)
  rw [hk] at HP
  have F1 : Fr (fun j => ¬ E j ∨ j = x) w (w.alloc (.cells #[.int .i64 q.kind, .string q.name, .string q.to, .slice q.bo q.bl q.bc, .int .i64 q.n, .int .i64 q.k1, .int .i64 q.k2, .int .i64 q.k3] 36)) := (Fr.refl _ w).alloc _
  obtain ⟨s1, s2, s3, s4, s5, s6⟩ := D1.six
  have hel : ∀ j, E j → j < w.heap.size := fun j e => by
    obtain ⟨⟨K, κ, ca, g1, g2, g3, g4, g5⟩, -, -⟩ := h
    exact (g5 j e).2
  have hjp : ∀ (u : World) (E' : Nat → Prop), Jg u E' d r P c o P c o → Calls Try.prog 22 #[.pointer (some ⟨d, 0, none⟩), .string q.name] u fun e w' => ∃ v, e = .returned v ∧ (∃ uu, v = .tuple #[uu, .int .i64 (if o then 24 else (Land.pread P q.name).1)] ∧ Own w' u.heap.size uu (if o then [] else (Land.pread P q.name).2)) ∧ Below u.heap.size u w' := fun u E' hj => jp_read hj q.name hs
  have hjr : ∀ (u : World) (E' : Nat → Prop), Jg u E' d r P c o P c o → Calls Try.prog 30 #[.pointer (some ⟨r, 0, none⟩), .string q.name] u fun e w' => ∃ v, e = .returned v ∧ (∃ ao len cap, v = .tuple #[.slice ao len cap, .int .i64 (if o then 24 else (Land.pread P q.name).1)] ∧ Sl u ao len cap (if o then [] else (Land.pread P q.name).2)) ∧ w' = u := fun u E' hj => jr_read hj q.name hs
  generalize (if o then [] else (Land.pread P q.name).2) = bs at hjp hjr
  generalize (if o then 24 else (Land.pread P q.name).1) = ev at hjp hjr
  have HJP := hide2 hjp
  have HJR := hide2 hjr
  clear hjp hjr
  unfold OpR.val
  generalize hW : w.alloc (.cells #[.int .i64 q.kind, .string q.name, .string q.to, .slice q.bo q.bl q.bc, .int .i64 q.n, .int .i64 q.k1, .int .i64 q.k2, .int .i64 q.k3] 36) = W at *
  go_enter Try.func11, Try.ntmps11
  go_wp2_with fail
  try rw [hW]
  refine HP.out.mono ?_
  rintro e w1 ⟨rfl, rfl⟩
  clear HP
  have HD1 := hide2 D1.drew
  have HF1 := hide2 F1
  have HEL := hide2 hel
  clear D1 F1 hel hW h hx
  go_wp2
  refine wp_region_noPanic ?_
  refine wp_region_held_drew (S := (fun u : World => u.cell? ⟨x, 0, none⟩ = some (.pointer (some ⟨d, 0, none⟩)) ∧ u.cell? ⟨x, 1, none⟩ = some (.pointer (some ⟨r, 0, none⟩)) ∧ u.cell? ⟨w.heap.size, 1, none⟩ = some (.string q.name) ∧ u.cell? ⟨w.heap.size, 2, none⟩ = some (.string q.to) ∧ u.cell? ⟨w.heap.size, 3, none⟩ = some (.slice q.bo q.bl q.bc) ∧ u.cell? ⟨w.heap.size, 4, none⟩ = some (.int .i64 q.n))) (by kernel_rfl) (⟨s1, s2, s3, s4, s5, s6⟩) (fun hHeld => ?_)
  refine wpAnyH_take (i := 0) (oi := { dst := some 54, op := _, type := _, pos := _, after := _, guard := _ }) (v := ?_) rfl (by kernel_rfl) (by kernel_rfl) (by kernel_rfl) (fun _ _ _ h => h) (Or.inl ⟨by rfl, ?_⟩) (by assumption) ?_
  rotate_left 1
  · intro u hSw; obtain ⟨s1, s2, s3, s4, s5, s6⟩ := hSw; go_simp; try with_reducible rfl
  try simp only [Act.put, List.setIfInBounds_toArray, List.set_cons_zero, List.set_cons_succ]
  refine wpAnyH_take (i := 1) (oi := { dst := some 55, op := _, type := _, pos := _, after := _, guard := _ }) (v := ?_) rfl (by kernel_rfl) (by kernel_rfl) (by kernel_rfl) (fun _ _ _ h => h) (Or.inl ⟨by rfl, ?_⟩) (by assumption) ?_
  rotate_left 1
  · intro u hSw; obtain ⟨s1, s2, s3, s4, s5, s6⟩ := hSw; go_simp; try with_reducible rfl
  try simp only [Act.put, List.setIfInBounds_toArray, List.set_cons_zero, List.set_cons_succ]
  refine wpAnyH_take (i := 2) (oi := { dst := some 56, op := _, type := _, pos := _, after := _, guard := _ }) (v := ?_) rfl (by kernel_rfl) (by kernel_rfl) (by kernel_rfl) (fun _ _ _ h => h) (Or.inl ⟨by rfl, ?_⟩) (by assumption) ?_
  rotate_left 1
  · intro u hSw; obtain ⟨s1, s2, s3, s4, s5, s6⟩ := hSw; go_simp; try with_reducible rfl
  try simp only [Act.put, List.setIfInBounds_toArray, List.set_cons_zero, List.set_cons_succ]
  refine wpAnyH_take (i := 3) (oi := { dst := some 57, op := _, type := _, pos := _, after := _, guard := _ }) (v := ?_) rfl (by kernel_rfl) (by kernel_rfl) (by kernel_rfl) (fun _ _ _ h => h) (Or.inl ⟨by rfl, ?_⟩) (by assumption) ?_
  rotate_left 1
  · intro u hSw; obtain ⟨s1, s2, s3, s4, s5, s6⟩ := hSw; go_simp; try with_reducible rfl
  try simp only [Act.put, List.setIfInBounds_toArray, List.set_cons_zero, List.set_cons_succ]
  refine wpAnyH_take (i := 4) (oi := { dst := some 58, op := _, type := _, pos := _, after := _, guard := _ }) (v := ?_) rfl (by kernel_rfl) (by kernel_rfl) (by kernel_rfl) (fun _ _ _ h => h) (Or.inl ⟨by rfl, ?_⟩) (by assumption) ?_
  rotate_left 1
  · intro u hSw; obtain ⟨s1, s2, s3, s4, s5, s6⟩ := hSw; go_simp; try with_reducible rfl
  try simp only [Act.put, List.setIfInBounds_toArray, List.set_cons_zero, List.set_cons_succ]
  refine wpAnyH_take (i := 5) (oi := { dst := some 59, op := _, type := _, pos := _, after := _, guard := _ }) (v := ?_) rfl (by kernel_rfl) (by kernel_rfl) (by kernel_rfl) (fun _ _ _ h => h) (Or.inl ⟨by rfl, ?_⟩) (by assumption) ?_
  rotate_left 1
  · intro u hSw; obtain ⟨s1, s2, s3, s4, s5, s6⟩ := hSw; go_simp; try with_reducible rfl
  try simp only [Act.put, List.setIfInBounds_toArray, List.set_cons_zero, List.set_cons_succ]
  refine wpAnyH_ready (rs := [6]) (by kernel_rfl) (by simp) ?_
  refine AllReadyH.cons (o := { dst := some 60, op := _, type := _, pos := _, after := _, guard := _ }) rfl (fun K hK => ?_) AllReadyH.nil
  go_simp
  refine (HJP.out _ _ HD1.out.jg).mono ?_
  rintro e w2 ⟨v, rfl, ⟨u, rfl, hO⟩, hB2⟩
  obtain ⟨au, cu, eu⟩ := own_form hO
  subst eu
  have HD2 := hide2 (HD1.out.wide hB2)
  have HO := hide2 hO
  have HB2 := hide2 hB2
  clear hO hB2
  go_wp2_with fail
  refine hK.out _ _ (HD2.out.six) (fun hHeld => ?_)
  clear hK K
  try simp only [Act.put, List.setIfInBounds_toArray, List.set_cons_zero, List.set_cons_succ]
  refine wpAnyH_take (i := 7) (oi := { dst := some 53, op := _, type := _, pos := _, after := _, guard := _ }) (v := ?_) rfl (by kernel_rfl) (by kernel_rfl) (by kernel_rfl) (fun _ _ _ h => h) (Or.inl ⟨by rfl, ?_⟩) (by assumption) ?_
  rotate_left 1
  · intro u hSw; obtain ⟨s1, s2, s3, s4, s5, s6⟩ := hSw; go_simp; try with_reducible rfl
  try simp only [Act.put, List.setIfInBounds_toArray, List.set_cons_zero, List.set_cons_succ]
  refine wpAnyH_take (i := 8) (oi := { dst := some 61, op := _, type := _, pos := _, after := _, guard := _ }) (v := ?_) rfl (by kernel_rfl) (by kernel_rfl) (by kernel_rfl) (fun _ _ _ h => h) (Or.inl ⟨by rfl, ?_⟩) (by assumption) ?_
  rotate_left 1
  · intro u hSw; obtain ⟨s1, s2, s3, s4, s5, s6⟩ := hSw; go_simp; try with_reducible rfl
  try simp only [Act.put, List.setIfInBounds_toArray, List.set_cons_zero, List.set_cons_succ]
  refine wpAnyH_take (i := 9) (oi := { dst := some 62, op := _, type := _, pos := _, after := _, guard := _ }) (v := ?_) rfl (by kernel_rfl) (by kernel_rfl) (by kernel_rfl) (fun _ _ _ h => h) (Or.inl ⟨by rfl, ?_⟩) (by assumption) ?_
  rotate_left 1
  · intro u hSw; obtain ⟨s1, s2, s3, s4, s5, s6⟩ := hSw; go_simp; try with_reducible rfl
  try simp only [Act.put, List.setIfInBounds_toArray, List.set_cons_zero, List.set_cons_succ]
  refine wpAnyH_take (i := 10) (oi := { dst := some 8, op := _, type := _, pos := _, after := _, guard := _ }) (v := ?_) rfl (by kernel_rfl) (by kernel_rfl) (by kernel_rfl) (fun _ _ _ h => h) (Or.inl ⟨by rfl, ?_⟩) (by assumption) ?_
  rotate_left 1
  · intro u hSw; obtain ⟨s1, s2, s3, s4, s5, s6⟩ := hSw; go_simp; try with_reducible rfl
  try simp only [Act.put, List.setIfInBounds_toArray, List.set_cons_zero, List.set_cons_succ]
  refine wpAnyH_take (i := 11) (oi := { dst := some 9, op := _, type := _, pos := _, after := _, guard := _ }) (v := ?_) rfl (by kernel_rfl) (by kernel_rfl) (by kernel_rfl) (fun _ _ _ h => h) (Or.inl ⟨by rfl, ?_⟩) (by assumption) ?_
  rotate_left 1
  · intro u hSw; obtain ⟨s1, s2, s3, s4, s5, s6⟩ := hSw; go_simp; try with_reducible rfl
  try simp only [Act.put, List.setIfInBounds_toArray, List.set_cons_zero, List.set_cons_succ]
  refine wpAnyH_done (by kernel_rfl) ?_ _
  refine NoPanic.normal ?_
  obtain ⟨s1, s2, s3, s4, s5, s6⟩ := HD2.out.six
  have HD2' := hide2 HD2.out.drew
  go_wp2
  refine wp_region_noPanic ?_
  refine wp_region_held_drew (S := (fun u : World => u.cell? ⟨x, 0, none⟩ = some (.pointer (some ⟨d, 0, none⟩)) ∧ u.cell? ⟨x, 1, none⟩ = some (.pointer (some ⟨r, 0, none⟩)) ∧ u.cell? ⟨w.heap.size, 1, none⟩ = some (.string q.name) ∧ u.cell? ⟨w.heap.size, 2, none⟩ = some (.string q.to) ∧ u.cell? ⟨w.heap.size, 3, none⟩ = some (.slice q.bo q.bl q.bc) ∧ u.cell? ⟨w.heap.size, 4, none⟩ = some (.int .i64 q.n))) (by kernel_rfl) (⟨s1, s2, s3, s4, s5, s6⟩) (fun hHeld => ?_)
  refine wpAnyH_take (i := 0) (oi := { dst := some 64, op := _, type := _, pos := _, after := _, guard := _ }) (v := ?_) rfl (by kernel_rfl) (by kernel_rfl) (by kernel_rfl) (fun _ _ _ h => h) (Or.inl ⟨by rfl, ?_⟩) (by assumption) ?_
  rotate_left 1
  · intro u hSw; obtain ⟨s1, s2, s3, s4, s5, s6⟩ := hSw; go_simp; try with_reducible rfl
  try simp only [Act.put, List.setIfInBounds_toArray, List.set_cons_zero, List.set_cons_succ]
  refine wpAnyH_take (i := 1) (oi := { dst := some 65, op := _, type := _, pos := _, after := _, guard := _ }) (v := ?_) rfl (by kernel_rfl) (by kernel_rfl) (by kernel_rfl) (fun _ _ _ h => h) (Or.inl ⟨by rfl, ?_⟩) (by assumption) ?_
  rotate_left 1
  · intro u hSw; obtain ⟨s1, s2, s3, s4, s5, s6⟩ := hSw; go_simp; try with_reducible rfl
  try simp only [Act.put, List.setIfInBounds_toArray, List.set_cons_zero, List.set_cons_succ]
  refine wpAnyH_take (i := 2) (oi := { dst := some 66, op := _, type := _, pos := _, after := _, guard := _ }) (v := ?_) rfl (by kernel_rfl) (by kernel_rfl) (by kernel_rfl) (fun _ _ _ h => h) (Or.inl ⟨by rfl, ?_⟩) (by assumption) ?_
  rotate_left 1
  · intro u hSw; obtain ⟨s1, s2, s3, s4, s5, s6⟩ := hSw; go_simp; try with_reducible rfl
  try simp only [Act.put, List.setIfInBounds_toArray, List.set_cons_zero, List.set_cons_succ]
  refine wpAnyH_take (i := 3) (oi := { dst := some 67, op := _, type := _, pos := _, after := _, guard := _ }) (v := ?_) rfl (by kernel_rfl) (by kernel_rfl) (by kernel_rfl) (fun _ _ _ h => h) (Or.inl ⟨by rfl, ?_⟩) (by assumption) ?_
  rotate_left 1
  · intro u hSw; obtain ⟨s1, s2, s3, s4, s5, s6⟩ := hSw; go_simp; try with_reducible rfl
  try simp only [Act.put, List.setIfInBounds_toArray, List.set_cons_zero, List.set_cons_succ]
  refine wpAnyH_take (i := 4) (oi := { dst := some 68, op := _, type := _, pos := _, after := _, guard := _ }) (v := ?_) rfl (by kernel_rfl) (by kernel_rfl) (by kernel_rfl) (fun _ _ _ h => h) (Or.inl ⟨by rfl, ?_⟩) (by assumption) ?_
  rotate_left 1
  · intro u hSw; obtain ⟨s1, s2, s3, s4, s5, s6⟩ := hSw; go_simp; try with_reducible rfl
  try simp only [Act.put, List.setIfInBounds_toArray, List.set_cons_zero, List.set_cons_succ]
  refine wpAnyH_take (i := 5) (oi := { dst := some 69, op := _, type := _, pos := _, after := _, guard := _ }) (v := ?_) rfl (by kernel_rfl) (by kernel_rfl) (by kernel_rfl) (fun _ _ _ h => h) (Or.inl ⟨by rfl, ?_⟩) (by assumption) ?_
  rotate_left 1
  · intro u hSw; obtain ⟨s1, s2, s3, s4, s5, s6⟩ := hSw; go_simp; try with_reducible rfl
  try simp only [Act.put, List.setIfInBounds_toArray, List.set_cons_zero, List.set_cons_succ]
  refine wpAnyH_ready (rs := [6]) (by kernel_rfl) (by simp) ?_
  refine AllReadyH.cons (o := { dst := some 70, op := _, type := _, pos := _, after := _, guard := _ }) rfl (fun K hK => ?_) AllReadyH.nil
  go_simp
  refine (HJR.out _ _ HD2'.out.jg).mono ?_
  rintro e w3 ⟨v, rfl, ⟨ac, lc, cc, rfl, hSl⟩, rfl⟩
  have HSl := hide2 hSl
  clear hSl
  go_wp2_with fail
  refine hK.out _ _ (HD2'.out.six) (fun hHeld => ?_)
  clear hK K
  try simp only [Act.put, List.setIfInBounds_toArray, List.set_cons_zero, List.set_cons_succ]
  refine wpAnyH_take (i := 7) (oi := { dst := some 63, op := _, type := _, pos := _, after := _, guard := _ }) (v := ?_) rfl (by kernel_rfl) (by kernel_rfl) (by kernel_rfl) (fun _ _ _ h => h) (Or.inl ⟨by rfl, ?_⟩) (by assumption) ?_
  rotate_left 1
  · intro u hSw; obtain ⟨s1, s2, s3, s4, s5, s6⟩ := hSw; go_simp; try with_reducible rfl
  try simp only [Act.put, List.setIfInBounds_toArray, List.set_cons_zero, List.set_cons_succ]
  refine wpAnyH_take (i := 8) (oi := { dst := some 71, op := _, type := _, pos := _, after := _, guard := _ }) (v := ?_) rfl (by kernel_rfl) (by kernel_rfl) (by kernel_rfl) (fun _ _ _ h => h) (Or.inl ⟨by rfl, ?_⟩) (by assumption) ?_
  rotate_left 1
  · intro u hSw; obtain ⟨s1, s2, s3, s4, s5, s6⟩ := hSw; go_simp; try with_reducible rfl
  try simp only [Act.put, List.setIfInBounds_toArray, List.set_cons_zero, List.set_cons_succ]
  refine wpAnyH_take (i := 9) (oi := { dst := some 72, op := _, type := _, pos := _, after := _, guard := _ }) (v := ?_) rfl (by kernel_rfl) (by kernel_rfl) (by kernel_rfl) (fun _ _ _ h => h) (Or.inl ⟨by rfl, ?_⟩) (by assumption) ?_
  rotate_left 1
  · intro u hSw; obtain ⟨s1, s2, s3, s4, s5, s6⟩ := hSw; go_simp; try with_reducible rfl
  try simp only [Act.put, List.setIfInBounds_toArray, List.set_cons_zero, List.set_cons_succ]
  refine wpAnyH_take (i := 10) (oi := { dst := some 10, op := _, type := _, pos := _, after := _, guard := _ }) (v := ?_) rfl (by kernel_rfl) (by kernel_rfl) (by kernel_rfl) (fun _ _ _ h => h) (Or.inl ⟨by rfl, ?_⟩) (by assumption) ?_
  rotate_left 1
  · intro u hSw; obtain ⟨s1, s2, s3, s4, s5, s6⟩ := hSw; go_simp; try with_reducible rfl
  try simp only [Act.put, List.setIfInBounds_toArray, List.set_cons_zero, List.set_cons_succ]
  refine wpAnyH_take (i := 11) (oi := { dst := some 11, op := _, type := _, pos := _, after := _, guard := _ }) (v := ?_) rfl (by kernel_rfl) (by kernel_rfl) (by kernel_rfl) (fun _ _ _ h => h) (Or.inl ⟨by rfl, ?_⟩) (by assumption) ?_
  rotate_left 1
  · intro u hSw; obtain ⟨s1, s2, s3, s4, s5, s6⟩ := hSw; go_simp; try with_reducible rfl
  try simp only [Act.put, List.setIfInBounds_toArray, List.set_cons_zero, List.set_cons_succ]
  refine wpAnyH_done (by kernel_rfl) ?_ _
  refine NoPanic.normal ?_
  have hbyt := HSl.out.2.2.2.1
  have hsz1 := HB2.out.size
  have HF0 : Hid (Fr (fun j => ¬ E j ∨ j = x) w w2.drew) := hide2 (((HF1.out.drewN 1).trans (G := fun _ => False) (Fr.below HB2.out) (fun j hj => hj.elim)).drewN 1)
  have HOd : Hid (Own w2.drew w1.drew.heap.size (.slice au bs.length cu) bs) := hide2 (row_any HO.out fun j e => rfl)
  obtain ⟨ao9, cap9, e9, hs9, -⟩ := Own.sl HOd.out hbyt
  simp only [Value.slice.injEq] at e9
  obtain ⟨rfl, -, rfl⟩ := e9
  have hstr1 := hs9.str 32 Try.underlying32 Try.underlying5 Try.underlying9
  have hstr2 := HSl.out.str 32 Try.underlying32 Try.underlying5 Try.underlying9
  have hml := hs9.2.1
  have hml2 := hs9.2.2.1
  unfold maxLen at hml2
  have hJ0 := HD2'.out.jg
  have hWx0 := HD2'.out.wx
  have HJ0 := hide2 hJ0
  have HWx0 := hide2 hWx0
  have hge : w.heap.size ≤ w1.drew.heap.size := HF1.out.size
  have HBE : Hid (∀ j, E j → j < w.heap.size) := HEL
  obtain ⟨L, hL⟩ : ∃ L, L = bs.length := ⟨_, rfl⟩
  rw [← hL] at hstr1 hml
  have HLL := hide2 hL
  have HO1 : Hid (∃ zs : List Int, zs.length = L ∧ Own w2.drew w1.drew.heap.size (.slice au L cu) zs) := hide2 ⟨bs, hL.symm, by rw [hL]; exact HOd.out⟩
  simp only [← hL]
  clear hJ0 hWx0 hs9 hbyt HOd HO HSl HD1 HD2 hL
  generalize strOfNums bs = st at *
  have hse : (st.toList == st.toList) = true := by simp
  go_wp2
  go_loopw [13] (fun i wr => ∃ k : Nat, k ≤ L ∧ i = .int .i64 k ∧ (∃ zs : List Int, zs.length = L ∧ Own wr w1.drew.heap.size (.slice au L cu) zs) ∧ Jg wr (fun j => ((E j ∨ j = w.heap.size) ∨ w1.drew.heap.size ≤ j ∧ j < w2.heap.size)) d r P c o P c o ∧ Wx wr x d r ∧ Fr (fun j => ¬ E j ∨ j = x) w wr ∧ wr.heap.size = w2.heap.size) (fun i _ => L - (intOf i).toNat)
  case atStart => exact ⟨0, by omega, rfl, HO1.out, HJ0.out, HWx0.out, HF0.out, rfl⟩
  case round =>
    clear HJ0 HWx0 HF0 HO1 s1 s2 s3 s4 s5 s6
    obtain ⟨k, hk, rfl, ⟨zs, hz1, hz2⟩, hJ, hWx, hF, hsz⟩ := hrel
    have HSZ := hide2 hsz
    clear hsz
    by_cases hkL : k < L
    · subst hz1
      obtain ⟨g, cg, eg⟩ := Go.Joins.ownsRow_form hz2 (by omega)
      simp only [Value.slice.injEq] at eg
      obtain ⟨rfl, -, rfl⟩ := eg
      obtain ⟨v0, c0, f0, hg1, hg2⟩ := own_cell hz2 hkL
      have hO2 := own_put (k := k) hz2 78
      have hJ2 : Jg (wr.setCell ⟨g, k, none⟩ (.int .u8 78)) (fun j => ((E j ∨ j = w.heap.size) ∨ w1.drew.heap.size ≤ j ∧ j < w2.heap.size)) d r P c o P c o := hJ.keep ((Fr.refl _ wr).setCell (p := ⟨g, k, none⟩) (.inl (.inr ⟨hg1, by show g < w2.heap.size; have := HSZ.out; omega⟩)) _) (fun j e => .inl e)
      have hgx : g ≠ x := by omega
      have hWx2 : Wx (wr.setCell ⟨g, k, none⟩ (.int .u8 78)) x d r := (Below.heap_setCell _ _ _ _ (by simpa using Ne.symm hgx)).trans hWx
      have hF2 := hF.setCell (p := ⟨g, k, none⟩) (.inr (by show w.heap.size ≤ g; omega)) (.int .u8 78)
      have HX := hide2 (And.intro (show ∃ zs' : List Int, zs'.length = zs.length ∧ Own (wr.setCell ⟨g, k, none⟩ (.int .u8 78)) w1.drew.heap.size (.slice (some ⟨g, 0, none⟩) zs.length cu) zs' from ⟨_, List.length_set, hO2⟩) (And.intro hJ2 (And.intro hWx2 (And.intro hF2 (show (wr.setCell ⟨g, k, none⟩ (.int .u8 78)).heap.size = w2.heap.size by rw [← HSZ.out]; simp)))))
      have hkL2 : (k : Int) < (zs.length : Int) := by omega
      clear hz2 hO2 hJ hJ2 hWx hWx2 hF hF2
      go_wp2
      go_roundw
      case rel => exact ⟨k + 1, by omega, by go_num, HX.out⟩
      case measure => simp [intOf]; omega
    · obtain rfl : L = k := by omega
      have HX := hide2 (And.intro (hJ.less (E' := E) (fun j e => .inl (.inl e))) (And.intro hWx hF))
      clear hz2 hJ hWx hF
      go_wp2
      go_ret
      exact ⟨rfl, d, r, _, _, _, HX.out⟩
end
end Go.Proofs.Ytolaagbdnchhiaa
