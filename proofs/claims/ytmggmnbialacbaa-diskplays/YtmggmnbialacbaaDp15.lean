/-
  'alike': both disks have the same names, files and operations. (Printed by gen_dj8.py.)
-/
import Derived.Test.YtmggmnbialacbaaDp14
import Derived.BigQuiet
import Derived.Test.YtmggmnbialacbaaDp11
set_option linter.unusedVariables false
set_option linter.unusedSimpArgs false
namespace Go.Proofs.Ytmggmnbialacbaa
open Go.RowKit Go.Maps

section
variable {w : World} {E : Nat → Prop} {x d r : Nat} {P Q : PD} {c c' : Int} {o o' : Bool}
theorem jp_names (h : Jg w E d r P c o Q c' o') : Calls Try.prog 23 #[.pointer (some ⟨d, 0, none⟩)] w fun e w' => ∃ ao len cap, e = .returned (.slice ao len cap) ∧ St w' ao len cap (Land.dnames P.now) ∧ Below w.heap.size w w' := by
  obtain ⟨⟨K, κ, ca, h1, h2, h3, h4, h5⟩, hp, hq⟩ := h
  exact Land.dr_names h1 hp
theorem jr_names (h : Jg w E d r P c o Q c' o') : Calls Try.prog 40 #[.pointer (some ⟨r, 0, none⟩)] w fun e w' => ∃ ao len cap, e = .returned (.slice ao len cap) ∧ St w' ao len cap (Land.dnames Q.now) ∧ Below w.heap.size w w' := by
  obtain ⟨⟨K, κ, ca, h1, h2, h3, h4, h5⟩, hp, hq⟩ := h
  exact ref_names h2 hq
theorem jp_ops (h : Jg w E d r P c o Q c' o') : Calls Try.prog 26 #[.pointer (some ⟨d, 0, none⟩)] w fun e w' => e = .returned (.int .i64 P.n) ∧ w' = w := by
  obtain ⟨⟨K, κ, ca, h1, h2, h3, h4, h5⟩, hp, hq⟩ := h
  obtain ⟨now, syn, since, hd⟩ := h1.dk
  exact ops_any hd
theorem jr_n (h : Jg w E d r P c o Q c' o') : w.cell? ⟨r, 4, none⟩ = some (.int .i64 Q.n) := by
  obtain ⟨⟨K, κ, ca, h1, ⟨vF, vO, vL, vN, φ, β, h2⟩, h3, h4, h5⟩, hp, hq⟩ := h
  exact h2.rk.cells.2.2.2.2.1
theorem Jg.drew {w : World} (h : Jg w E d r P c o Q c' o') (n : Nat) : Jg (w.drewN n) E d r P c o Q c' o' := h.keep ((Fr.refl E w).drewN n) (fun j e => .inl e)
theorem Wx.below {w w' : World} (h : Wx w x d r) (hb : Below w.heap.size w w') : Wx w' x d r := (hb.block x h.lt).trans h
theorem St.drewN {w : World} {ao : Option Addr} {len cap : Nat} {ss : List ByteArray} (h : St w ao len cap ss) (q : Nat) : St (w.drewN q) ao len cap ss := h.below ⟨rfl, rfl, rfl, Nat.le_refl _, fun _ _ => rfl⟩
theorem undrew {w w' : World} (h : Below (w.drewN 1).heap.size (w.drewN 1) w') : Below w.heap.size w w' := ⟨h.os, h.tape, h.output, h.size, h.block⟩
/-- Both reads of disks that a crash has left. -/
theorem both_read {w : World} {P : PD} (h : Jg w E d r P (-1) false P (-1) false) (s : ByteArray) (hs : s.size ≤ maxLen) : ∃ (bs : List Int) (ev : Int), Byt bs ∧
    (∀ u, Jg u E d r P (-1) false P (-1) false → Calls Try.prog 22 #[.pointer (some ⟨d, 0, none⟩), .string s] u fun e w' => ∃ ao cap, e = .returned (.tuple #[.slice ao bs.length cap, .int .i64 ev]) ∧ Own w' u.heap.size (.slice ao bs.length cap) bs ∧ Below u.heap.size u w') ∧
    (∀ u, Jg u E d r P (-1) false P (-1) false → Calls Try.prog 30 #[.pointer (some ⟨r, 0, none⟩), .string s] u fun e w' => ∃ ao len cap, e = .returned (.tuple #[.slice ao len cap, .int .i64 ev]) ∧ Sl u ao len cap bs ∧ w' = u) := by
  refine ⟨(Land.pread P s).2, (Land.pread P s).1, ?_, fun u hj => ?_, fun u hj => ?_⟩
  · unfold Land.pread
    split
    · exact fun _ h => by cases h
    · split
      · exact fun _ h => by cases h
      · rename_i i hi
        exact (h.pi.at hi).2.1
  · refine (jp_read hj s hs).mono ?_
    rintro e w' ⟨v, rfl, ⟨u', rfl, hO⟩, hB⟩
    obtain ⟨ao, cap, rfl⟩ := own_form hO
    exact ⟨ao, cap, rfl, hO, hB⟩
  · refine (jr_read hj s hs).mono ?_
    rintro e w' ⟨v, rfl, ⟨ao, len, cap, rfl, hO⟩, rfl⟩
    exact ⟨ao, len, cap, rfl, hO, rfl⟩
end

section
variable {w : World} {E : Nat → Prop} {x d r : Nat} {P : PD} {c : Int} {o : Bool}
set_option maxRecDepth 100000 in
set_option maxHeartbeats 4000000 in
theorem alike_any (h : Jg w E d r P c o P c o) (hx : Wx w x d r) :
    Calls Try.prog 12 #[.pointer (some ⟨x, 0, none⟩)] w fun e w' => e = .returned (.bool true) ∧ Below w.heap.size w w' := by
  obtain ⟨s1, s2⟩ := hx.cells
  have hxl := hx.lt
  have HN := hide2 (jp_names h)
  go_enter Try.func12, Try.ntmps12
  go_wp2_with fail
  refine HN.out.mono ?_
  rintro e w1 ⟨ao, len, cap, rfl, hs1, B1⟩
  have hj1 := h.keep (Fr.below B1) (fun j e => .inl e)
  have hx1 := hx.below B1
  have HN1 := hide2 (jr_names hj1)
  have HS1 := hide2 hs1
  have HB1 := hide2 B1
  have HJ1 := hide2 hj1
  have HX1 := hide2 hx1
  obtain ⟨p1, p2⟩ := hx1.cells
  clear HN s1 s2 hs1 B1 hj1 hx1 h hx
  go_wp2_with fail
  refine HN1.out.mono ?_
  rintro e w2 ⟨bo, len2, cap2, rfl, hs2, B2⟩
  have hs1 := HS1.out.below B2
  obtain rfl : len = len2 := hs1.1.symm.trans hs2.1
  have HN2 := hide2 (same_any hs1 hs2)
  have HS2 := hide2 hs1
  have HB2 := hide2 (HB1.out.trans (B2.mono HB1.out.size))
  have HJ2 := hide2 (HJ1.out.keep (Fr.below B2) (fun j e => .inl e))
  have HX2 := hide2 (HX1.out.below B2)
  clear p1 p2 HN1 HS1 HB1 HJ1 HX1 hs1 hs2 B2
  go_wp2_with fail
  refine HN2.out.mono ?_
  rintro e w3 ⟨rfl, q, hq⟩
  have hS3 : St w3 ao len cap (Land.dnames P.now) := by rw [hq]; exact HS2.out.drewN q
  have hB3 : Below w.heap.size w w3 := by rw [hq]; exact HB2.out.trans ⟨rfl, rfl, rfl, Nat.le_refl _, fun _ _ => rfl⟩
  have hJ3 : Jg w3 E d r P c o P c o := by rw [hq]; exact HJ2.out.drew q
  have hX3 : Wx w3 x d r := by rw [hq]; exact HX2.out
  obtain ⟨s1, s2⟩ := hX3.cells
  have s3 := jr_n hJ3
  have hops : ∀ k, Calls Try.prog 26 #[.pointer (some ⟨d, 0, none⟩)] (w3.drewN k) fun e w' => e = .returned (.int .i64 P.n) ∧ w' = w3.drewN k := fun k => jp_ops (hJ3.drew k)
  have hnn : (P.n != P.n) = false := by simp
  have hnn2 : decide (P.n = P.n) = true := by simp
  have hnf : (!true) = false := rfl
  have HS3 := hide2 hS3
  have HB3 := hide2 hB3
  have HJ3 := hide2 hJ3
  have HX3 := hide2 hX3
  clear HN2 HS2 HB2 HJ2 HX2 hq hS3 hB3 hJ3 hX3
  go_wp2
  go_quiet ((go_at_call 26; exact Calls.quiet_of_same (hops _)))
  clear hops s1 s2 s3
  have HS4 := hide2 (HS3.out.drewN nq)
  have HB4 : Hid (Below w.heap.size w (w3.drewN nq)) := hide2 (HB3.out.trans ⟨rfl, rfl, rfl, Nat.le_refl _, fun _ _ => rfl⟩)
  have HJ4 := hide2 (HJ3.out.drew nq)
  have HX4 : Hid (Wx (w3.drewN nq) x d r) := hide2 HX3.out
  clear HS3 HB3 HJ3 HX3
  generalize w3.drewN nq = V at *
  have e0 : (V.alloc (.cells #[.int .i64 0, .int .i64 0, .int .i64 0] 34)).heap[V.heap.size]? = some (.cells #[.int .i64 0, .int .i64 0, .int .i64 0] 34 (0, 0)) := heap_alloc_new V _
  have c0 : (V.alloc (.cells #[.int .i64 0, .int .i64 0, .int .i64 0] 34)).cell? ⟨V.heap.size, 0, none⟩ = some (.int .i64 0) := by rw [Go.Joins.cell_of_block e0]; rfl
  have c1 : (V.alloc (.cells #[.int .i64 0, .int .i64 0, .int .i64 0] 34)).cell? ⟨V.heap.size, 1, none⟩ = some (.int .i64 0) := by rw [Go.Joins.cell_of_block e0]; rfl
  have c2 : (V.alloc (.cells #[.int .i64 0, .int .i64 0, .int .i64 0] 34)).cell? ⟨V.heap.size, 2, none⟩ = some (.int .i64 0) := by rw [Go.Joins.cell_of_block e0]; rfl
  have f0 := Go.Joins.unfrozen_of_block e0 0
  have f1 := Go.Joins.unfrozen_of_block e0 1
  have f2 := Go.Joins.unfrozen_of_block e0 2
  have HE0 := hide2 e0
  clear e0
  go_wp2
  clear c0 c1 c2 f0 f1 f2
  have b4 : Below V.heap.size V (V.alloc (.cells #[.int .i64 262144, .int .i64 65536, .int .i64 0] 34)) := (Below.refl _ _).alloc (Nat.le_refl _) _
  have fa : (V.alloc (.cells #[.int .i64 262144, .int .i64 65536, .int .i64 0] 34)).heap[V.heap.size]? = some (.cells #[.int .i64 262144, .int .i64 65536, .int .i64 0] 34 (0, 0)) := heap_alloc_new V _
  clear HE0
  generalize V.alloc (.cells #[.int .i64 262144, .int .i64 65536, .int .i64 0] 34) = W at *
  have HS5 := hide2 (HS4.out.below b4)
  have HB5 := hide2 (HB4.out.trans (b4.mono HB4.out.size))
  have HJ5 := hide2 ((HJ4.out.keep (Fr.below b4) (fun j e => .inl e)).drew 1)
  have hx5 := HX4.out.below b4
  have hci := Land.inv_crashed HJ4.out.pi 262144 65536 0
  have hyl : V.heap.size < W.heap.size := (Array.getElem?_eq_some_iff.1 fa).1
  have HX5 := hide2 hx5
  have HFA := hide2 fa
  obtain ⟨s1, s2⟩ := hx5.cells
  have s3 : W.cell? ⟨V.heap.size, 0, none⟩ = some (.int .i64 262144) := by rw [Go.Joins.cell_of_block fa]; rfl
  have s4 : W.cell? ⟨V.heap.size, 1, none⟩ = some (.int .i64 65536) := by rw [Go.Joins.cell_of_block fa]; rfl
  have s5 : W.cell? ⟨V.heap.size, 2, none⟩ = some (.int .i64 0) := by rw [Go.Joins.cell_of_block fa]; rfl
  have HSZ := hide2 hyl
  clear HS4 HB4 HJ4 HX4 b4 hx5 fa hyl
  generalize hY : V.heap.size = Y at *
  refine wp_region_noPanic ?_
  refine wp_region_held_drew (S := (fun u : World => u.cell? ⟨x, 0, none⟩ = some (.pointer (some ⟨d, 0, none⟩)) ∧ u.cell? ⟨x, 1, none⟩ = some (.pointer (some ⟨r, 0, none⟩)) ∧ u.cell? ⟨Y, 0, none⟩ = some (.int .i64 262144) ∧ u.cell? ⟨Y, 1, none⟩ = some (.int .i64 65536) ∧ u.cell? ⟨Y, 2, none⟩ = some (.int .i64 0))) (by kernel_rfl) (⟨s1, s2, s3, s4, s5⟩) (fun hHeld => ?_)
  refine wpAnyH_take (i := 0) (oi := { dst := some 43, op := _, type := _, pos := _, after := _, guard := _ }) (v := ?_) rfl (by kernel_rfl) (by kernel_rfl) (by kernel_rfl) (fun _ _ _ h => h) (Or.inl ⟨by rfl, ?_⟩) (by assumption) ?_
  rotate_left 1
  · intro u hSw; obtain ⟨s1, s2, s3, s4, s5⟩ := hSw; go_simp; try with_reducible rfl
  try simp only [Act.put, List.setIfInBounds_toArray, List.set_cons_zero, List.set_cons_succ]
  refine wpAnyH_take (i := 1) (oi := { dst := some 44, op := _, type := _, pos := _, after := _, guard := _ }) (v := ?_) rfl (by kernel_rfl) (by kernel_rfl) (by kernel_rfl) (fun _ _ _ h => h) (Or.inl ⟨by rfl, ?_⟩) (by assumption) ?_
  rotate_left 1
  · intro u hSw; obtain ⟨s1, s2, s3, s4, s5⟩ := hSw; go_simp; try with_reducible rfl
  try simp only [Act.put, List.setIfInBounds_toArray, List.set_cons_zero, List.set_cons_succ]
  refine wpAnyH_take (i := 2) (oi := { dst := some 45, op := _, type := _, pos := _, after := _, guard := _ }) (v := ?_) rfl (by kernel_rfl) (by kernel_rfl) (by kernel_rfl) (fun _ _ _ h => h) (Or.inl ⟨by rfl, ?_⟩) (by assumption) ?_
  rotate_left 1
  · intro u hSw; obtain ⟨s1, s2, s3, s4, s5⟩ := hSw; go_simp; try with_reducible rfl
  try simp only [Act.put, List.setIfInBounds_toArray, List.set_cons_zero, List.set_cons_succ]
  refine wpAnyH_take (i := 3) (oi := { dst := some 46, op := _, type := _, pos := _, after := _, guard := _ }) (v := ?_) rfl (by kernel_rfl) (by kernel_rfl) (by kernel_rfl) (fun _ _ _ h => h) (Or.inl ⟨by rfl, ?_⟩) (by assumption) ?_
  rotate_left 1
  · intro u hSw; obtain ⟨s1, s2, s3, s4, s5⟩ := hSw; go_simp; try with_reducible rfl
  try simp only [Act.put, List.setIfInBounds_toArray, List.set_cons_zero, List.set_cons_succ]
  refine wpAnyH_take (i := 4) (oi := { dst := some 47, op := _, type := _, pos := _, after := _, guard := _ }) (v := ?_) rfl (by kernel_rfl) (by kernel_rfl) (by kernel_rfl) (fun _ _ _ h => h) (Or.inl ⟨by rfl, ?_⟩) (by assumption) ?_
  rotate_left 1
  · intro u hSw; obtain ⟨s1, s2, s3, s4, s5⟩ := hSw; go_simp; try with_reducible rfl
  try simp only [Act.put, List.setIfInBounds_toArray, List.set_cons_zero, List.set_cons_succ]
  refine wpAnyH_ready (rs := [5]) (by kernel_rfl) (by simp) ?_
  refine AllReadyH.cons (o := { dst := some 48, op := _, type := _, pos := _, after := _, guard := _ }) rfl (fun K hK => ?_) AllReadyH.nil
  go_simp
  refine (jp_crash HJ5.out 262144 65536 0).mono ?_
  rintro e w6 ⟨d1, rfl, hj6, hl6, B6⟩
  replace B6 := undrew B6
  have hx6 : Wx w6 x d r := HX5.out.below B6
  have fa6 : w6.heap[Y]? = some (.cells #[.int .i64 262144, .int .i64 65536, .int .i64 0] 34 (0, 0)) := (B6.block Y HSZ.out).trans HFA.out
  obtain ⟨p1, p2⟩ := hx6.cells
  have p3 : w6.cell? ⟨Y, 0, none⟩ = some (.int .i64 262144) := by rw [Go.Joins.cell_of_block fa6]; rfl
  have p4 : w6.cell? ⟨Y, 1, none⟩ = some (.int .i64 65536) := by rw [Go.Joins.cell_of_block fa6]; rfl
  have p5 : w6.cell? ⟨Y, 2, none⟩ = some (.int .i64 0) := by rw [Go.Joins.cell_of_block fa6]; rfl
  have HJ6 := hide2 (hj6.drew 1)
  have HL6 := hide2 ((hl6.less (E' := fun _ => False) (fun j e => e.elim)).keep ((Fr.refl _ w6).drewN 1))
  have HB6 : Hid (Below W.heap.size W w6) := hide2 B6
  have HB6s : Hid (W.heap.size ≤ w6.heap.size) := hide2 B6.size
  have HX6 : Hid (Wx w6 x d r) := hide2 hx6
  clear hj6 hl6 B6 hx6 fa6
  go_wp2_with fail
  refine hK.out _ _ (⟨p1, p2, p3, p4, p5⟩) (fun hHeld => ?_)
  clear hK K
  try simp only [Act.put, List.setIfInBounds_toArray, List.set_cons_zero, List.set_cons_succ]
  refine wpAnyH_take (i := 6) (oi := { dst := some 6, op := _, type := _, pos := _, after := _, guard := _ }) (v := ?_) rfl (by kernel_rfl) (by kernel_rfl) (by kernel_rfl) (fun _ _ _ h => h) (Or.inl ⟨by rfl, ?_⟩) (by assumption) ?_
  rotate_left 1
  · intro u hSw; obtain ⟨s1, s2, s3, s4, s5⟩ := hSw; go_simp; try with_reducible rfl
  try simp only [Act.put, List.setIfInBounds_toArray, List.set_cons_zero, List.set_cons_succ]
  refine wpAnyH_done (by kernel_rfl) ?_ _
  refine NoPanic.normal ?_
  clear s1 s2 s3 s4 s5 hHeld
  have HS6 := hide2 (HS5.out.below HB6.out)
  have HB6' := hide2 (HB5.out.trans (HB6.out.mono HB5.out.size))
  clear HS5 HB5 HJ5 HX5 HB6
  go_wp2
  refine wp_region_noPanic ?_
  refine wp_region_held_drew (S := (fun u : World => u.cell? ⟨x, 0, none⟩ = some (.pointer (some ⟨d, 0, none⟩)) ∧ u.cell? ⟨x, 1, none⟩ = some (.pointer (some ⟨r, 0, none⟩)) ∧ u.cell? ⟨Y, 0, none⟩ = some (.int .i64 262144) ∧ u.cell? ⟨Y, 1, none⟩ = some (.int .i64 65536) ∧ u.cell? ⟨Y, 2, none⟩ = some (.int .i64 0))) (by kernel_rfl) (⟨p1, p2, p3, p4, p5⟩) (fun hHeld => ?_)
  refine wpAnyH_take (i := 0) (oi := { dst := some 49, op := _, type := _, pos := _, after := _, guard := _ }) (v := ?_) rfl (by kernel_rfl) (by kernel_rfl) (by kernel_rfl) (fun _ _ _ h => h) (Or.inl ⟨by rfl, ?_⟩) (by assumption) ?_
  rotate_left 1
  · intro u hSw; obtain ⟨s1, s2, s3, s4, s5⟩ := hSw; go_simp; try with_reducible rfl
  try simp only [Act.put, List.setIfInBounds_toArray, List.set_cons_zero, List.set_cons_succ]
  refine wpAnyH_take (i := 1) (oi := { dst := some 50, op := _, type := _, pos := _, after := _, guard := _ }) (v := ?_) rfl (by kernel_rfl) (by kernel_rfl) (by kernel_rfl) (fun _ _ _ h => h) (Or.inl ⟨by rfl, ?_⟩) (by assumption) ?_
  rotate_left 1
  · intro u hSw; obtain ⟨s1, s2, s3, s4, s5⟩ := hSw; go_simp; try with_reducible rfl
  try simp only [Act.put, List.setIfInBounds_toArray, List.set_cons_zero, List.set_cons_succ]
  refine wpAnyH_take (i := 2) (oi := { dst := some 51, op := _, type := _, pos := _, after := _, guard := _ }) (v := ?_) rfl (by kernel_rfl) (by kernel_rfl) (by kernel_rfl) (fun _ _ _ h => h) (Or.inl ⟨by rfl, ?_⟩) (by assumption) ?_
  rotate_left 1
  · intro u hSw; obtain ⟨s1, s2, s3, s4, s5⟩ := hSw; go_simp; try with_reducible rfl
  try simp only [Act.put, List.setIfInBounds_toArray, List.set_cons_zero, List.set_cons_succ]
  refine wpAnyH_take (i := 3) (oi := { dst := some 52, op := _, type := _, pos := _, after := _, guard := _ }) (v := ?_) rfl (by kernel_rfl) (by kernel_rfl) (by kernel_rfl) (fun _ _ _ h => h) (Or.inl ⟨by rfl, ?_⟩) (by assumption) ?_
  rotate_left 1
  · intro u hSw; obtain ⟨s1, s2, s3, s4, s5⟩ := hSw; go_simp; try with_reducible rfl
  try simp only [Act.put, List.setIfInBounds_toArray, List.set_cons_zero, List.set_cons_succ]
  refine wpAnyH_take (i := 4) (oi := { dst := some 53, op := _, type := _, pos := _, after := _, guard := _ }) (v := ?_) rfl (by kernel_rfl) (by kernel_rfl) (by kernel_rfl) (fun _ _ _ h => h) (Or.inl ⟨by rfl, ?_⟩) (by assumption) ?_
  rotate_left 1
  · intro u hSw; obtain ⟨s1, s2, s3, s4, s5⟩ := hSw; go_simp; try with_reducible rfl
  try simp only [Act.put, List.setIfInBounds_toArray, List.set_cons_zero, List.set_cons_succ]
  refine wpAnyH_ready (rs := [5]) (by kernel_rfl) (by simp) ?_
  refine AllReadyH.cons (o := { dst := some 54, op := _, type := _, pos := _, after := _, guard := _ }) rfl (fun K hK => ?_) AllReadyH.nil
  go_simp
  refine (jr_crash HJ6.out HL6.out hci (fun j e => e.elim) 262144 65536 0).mono ?_
  rintro e w7 ⟨r1, rfl, hj7, B7⟩
  replace B7 := undrew B7
  have hx7 : Wx w7 x d r := HX6.out.below B7
  have hn5 : w6.cell? ⟨Y, 2, none⟩ = some (.int .i64 0) := p5
  obtain ⟨t1, t2⟩ := hx7.cells
  have HJ7 := hide2 hj7
  have HB7 : Hid (Below w6.heap.size w6 w7) := hide2 B7
  have hyl : Y < w6.heap.size := by have := HSZ.out; have := HB6s.out; omega
  have q1 : w7.cell? ⟨Y, 0, none⟩ = some (.int .i64 262144) := (World.cell?_of_block (B7.block Y hyl)).trans p3
  have q2 : w7.cell? ⟨Y, 1, none⟩ = some (.int .i64 65536) := (World.cell?_of_block (B7.block Y hyl)).trans p4
  have q3 : w7.cell? ⟨Y, 2, none⟩ = some (.int .i64 0) := (World.cell?_of_block (B7.block Y hyl)).trans p5
  clear hj7 B7
  go_wp2_with fail
  refine hK.out _ _ (⟨t1, t2, q1, q2, q3⟩) (fun hHeld => ?_)
  clear hK K
  try simp only [Act.put, List.setIfInBounds_toArray, List.set_cons_zero, List.set_cons_succ]
  refine wpAnyH_take (i := 6) (oi := { dst := some 7, op := _, type := _, pos := _, after := _, guard := _ }) (v := ?_) rfl (by kernel_rfl) (by kernel_rfl) (by kernel_rfl) (fun _ _ _ h => h) (Or.inl ⟨by rfl, ?_⟩) (by assumption) ?_
  rotate_left 1
  · intro u hSw; obtain ⟨s1, s2, s3, s4, s5⟩ := hSw; go_simp; try with_reducible rfl
  try simp only [Act.put, List.setIfInBounds_toArray, List.set_cons_zero, List.set_cons_succ]
  refine wpAnyH_done (by kernel_rfl) ?_ _
  refine NoPanic.normal ?_
  clear hHeld p1 p2 p3 p4 p5 q1 q2 q3 t1 t2 hx7 hn5
  have HS7 := hide2 (HS6.out.below HB7.out)
  have HB8 := hide2 (HB6'.out.trans (HB7.out.mono HB6'.out.size))
  have hlen : (len : Int) ≤ 9223372036854775807 := by have := HS7.out.2.1; have := HS7.out.2.2.1; unfold maxLen at this; omega
  generalize Land.crashed P 262144 65536 0 = P1 at *
  generalize Land.dnames P.now = ss at *
  clear HS6 HB6' HJ6 HL6 HX6 HB7
  go_wp2
  go_loopw [8] (fun i wr => ∃ k : Nat, k ≤ len ∧ i = .int .i64 (k : Int) ∧ St wr ao len cap ss ∧ Jg wr (fun _ => False) d1 r1 P1 (-1) false P1 (-1) false ∧ Below w.heap.size w wr) (fun i _ => len - (intOf i).toNat)
  case atStart => exact ⟨0, by omega, rfl, HS7.out, HJ7.out, HB8.out⟩
  case round =>
    clear HS7 HJ7 HB8
    obtain ⟨k, hk, rfl, hst, hj, hbw⟩ := hrel
    by_cases hlt : k < len
    · obtain ⟨b, off, rfl, hbl, hc⟩ := hst.2.2.2.2 (by omega)
      have hck := hc k hlt
      have hsz : (ss.getD k ByteArray.empty).size ≤ maxLen := by
        rw [List.getD, List.getElem?_eq_getElem (by rw [hst.1]; exact hlt)]
        exact hst.2.2.2.1 _ (List.getElem_mem _)
      obtain ⟨bs, ev, hbyt, hr1, hr2⟩ := both_read hj _ hsz
      generalize ss.getD k ByteArray.empty = s at hck hsz hr1 hr2
      have hi1 : (k : Int) < (len : Int) := by omega
      have HR1 := hide2 (hr1 wr hj)
      have HR2 := hide2 hr2
      have HST := hide2 hst
      have HBW := hide2 hbw
      have HJ := hide2 hj
      clear hc hr1 hr2 hst hbw hj
      go_wp2_with fail
      refine HR1.out.mono ?_
      rintro e w9 ⟨ao1, cap1, rfl, hO, B9⟩
      have hck9 : w9.cell? ⟨b, off + k, none⟩ = some (.string s) := (World.cell?_of_block (B9.block b hbl)).trans hck
      have HJ9 := hide2 (HJ.out.keep (Fr.below B9) (fun j e => .inl e))
      have HST9 := hide2 (HST.out.below B9)
      have HBW9 := hide2 (HBW.out.trans (B9.mono HBW.out.size))
      obtain ⟨ao9, cap9, e9, hs9, -⟩ := Own.sl hO hbyt
      simp only [Value.slice.injEq] at e9
      obtain ⟨rfl, -, rfl⟩ := e9
      have hstr1 := hs9.str 32 Try.underlying32 Try.underlying5 Try.underlying9
      clear hck B9 HR1 HST HBW HJ hO hs9
      go_wp2_with fail
      refine (HR2.out w9 HJ9.out).mono ?_
      rintro e w10 ⟨ac, lc, cc, rfl, hSl, rfl⟩
      have hstr2 := hSl.str 32 Try.underlying32 Try.underlying5 Try.underlying9
      generalize strOfNums bs = st at hstr1 hstr2
      have hss : (st.toList != st.toList) = false := by simp
      have hev : (ev != ev) = false := by simp
      have hev2 : decide (ev = ev) = true := by simp
      clear hck9 HR2 hSl hbyt
      go_wp2
      go_roundw
      case rel => exact ⟨k + 1, by omega, by go_num, HST9.out, HJ9.out, HBW9.out⟩
      case measure => simp [intOf]; omega
    · obtain rfl : k = len := by omega
      clear hst hj
      go_wp2
      go_ret
      exact ⟨rfl, hbw⟩
end
end Go.Proofs.Ytmggmnbialacbaa

/-
  DiskPlays' walk.
-/
set_option linter.unusedVariables false
set_option linter.unusedSimpArgs false
namespace Go.Proofs.Ytmggmnbialacbaa
open Go.RowKit Go.Maps

section
variable {w : World} {E : Nat → Prop} {x d r : Nat} {P : PD} {c : Int} {o : Bool}
theorem does_any (h : Jg w E d r P c o P c o) (hx : Wx w x d r) (hE : E x) (q : OpR) (ok : q.ok w) (hbl : q.bl ≤ 140737488351232) (hqe : 0 < q.bl → ∀ b off, q.bo = some ⟨b, off, none⟩ → E b ∧ b ≠ x) :
    Calls Try.prog 11 #[.pointer (some ⟨x, 0, none⟩), q.val] w fun e w' => e = .returned (.bool true) ∧ Dres w w' E x := by
  have hk := pk_lt q.kind
  have h1 : pk q.kind = 0 ∨ pk q.kind = 1 ∨ pk q.kind = 2 ∨ pk q.kind = 3 ∨ pk q.kind = 4 ∨ pk q.kind = 5 ∨ pk q.kind = 6 ∨ pk q.kind = 7 ∨ pk q.kind = 8 := by omega
  rcases h1 with h1 | h1 | h1 | h1 | h1 | h1 | h1 | h1 | h1
  · exact jd_append h hx hE q h1 ok.lo ok.hi ok.nam ok.sl hbl hqe
  · exact jd_read h hx hE q h1 ok.lo ok.hi ok.nam
  · exact jd_sync h hx hE q h1 ok.lo ok.hi ok.nam
  · exact jd_rename h hx hE q h1 ok.lo ok.hi ok.nam ok.tos
  · exact jd_delete h hx hE q h1 ok.lo ok.hi ok.nam
  · exact jd_syncDir h hx hE q h1 ok.lo ok.hi
  · exact jd_cutAt h hx hE q h1 ok.lo ok.hi
  · exact jd_poke h hx hE q h1 ok.lo ok.hi ok.nam
  · exact jd_crash h hx hE q h1 ok.lo ok.hi
end

/-- Both disks, new. -/
theorem jg_new {w : World} {d r : Nat} {E : Nat → Prop} (hd : Dk w d (.map none) (.map none) (.slice none 0 0) 0 0 false false) (hr : Rk w r (.slice none 0 0) (.slice none 0 0) (.slice none 0 0) (.slice none 0 0) 0 (-1) false) (hn : d ≠ r) (hE : ∀ j, E j → j < w.heap.size ∧ j ≠ d ∧ j ≠ r) :
    Jg w E d r PD.new (-1) false PD.new (-1) false := by
  have hdl := hd.lt
  have hrl : r < w.heap.size := (Array.getElem?_eq_some_iff.1 hr).1
  refine ⟨⟨fun _ => False, fun j => if j = r then .dsk else .out, 0, Land.dr_new d w hd _, ⟨_, _, _, _, fun _ => 0, fun _ => .slice none 0 0, ⟨hr, if_pos rfl, World.ownsRow_nil _ _ _ _, (fun g e => by cases e), World.ownsRow_nil _ _ _ _, (fun g e => by cases e), World.ownsRow_nil _ _ _ _, (fun g e => by cases e), World.ownsRow_nil _ _ _ _, (fun g e => by cases e), (fun i x e => by cases e), fun g e => ?_⟩⟩, (fun h => absurd h (by omega)), fun j hj => ?_, fun j e => ?_⟩, inv_new, inv_new⟩
  · by_cases hg : g = r
    · rw [hg]; exact hrl
    · exact absurd (if_neg hg) e
  · obtain rfl : j = d := hj.elim (fun e => e.elim) id
    exact ⟨hdl, if_neg hn, fun e => (hE j e).2.1 rfl⟩
  · exact ⟨if_neg (hE j e).2.2, (hE j e).1⟩

set_option maxRecDepth 100000 in
set_option maxHeartbeats 4000000 in
theorem plays_walk (ao : Option Addr) (len cap : Nat) (os : List OpR) (w : World) (h : Sc w ao len cap os) (hbs : ∀ q ∈ os, q.bl ≤ 140737488351232) :
    Calls Try.prog 3 #[.slice ao len cap] w fun e w' => e = .returned (.bool true) ∧ Below w.heap.size w w' := by
  have hlow := h.low
  have hlen : (len : Int) ≤ 9223372036854775807 := by have := h.2.1; have := h.2.2.1; unfold maxLen at this; omega
  have HH := hide2 h
  have HBS := hide2 hbs
  have HLOW := hide2 hlow
  clear h hbs hlow
  go_enter Try.func3, Try.ntmps3
  go_wp2_with fail
  refine (shown_any _).mono ?_
  rintro e w1 ⟨rfl, B1⟩
  go_wp2_with fail
  refine (new_any w1).mono ?_
  rintro e w2 ⟨rfl, hw2⟩
  have b12 : Below w1.heap.size w1 w2 := by rw [hw2]; exact (Below.refl _ _).alloc (Nat.le_refl _) _
  have s2 : w2.heap.size = w1.heap.size + 1 := by rw [hw2]; simp
  have k2 : Dk w2 w1.heap.size (.map none) (.map none) (.slice none 0 0) 0 0 false false := by rw [hw2]; exact heap_alloc_new w1 _
  clear hw2
  go_wp2_with fail
  refine (ref_new w2).mono ?_
  rintro e w3 ⟨rfl, k3, s3, b23⟩
  have b34 : Below w3.heap.size w3 (w3.alloc (.cells #[.pointer (some ⟨w1.heap.size, 0, none⟩), .pointer (some ⟨w2.heap.size, 0, none⟩)] 30)) := (Below.refl _ _).alloc (Nat.le_refl _) _
  have hWx : Wx (w3.alloc (.cells #[.pointer (some ⟨w1.heap.size, 0, none⟩), .pointer (some ⟨w2.heap.size, 0, none⟩)] 30)) w3.heap.size w1.heap.size w2.heap.size := heap_alloc_new w3 _
  have s4 : (w3.alloc (.cells #[.pointer (some ⟨w1.heap.size, 0, none⟩), .pointer (some ⟨w2.heap.size, 0, none⟩)] 30)).heap.size = w3.heap.size + 1 := by simp
  have sz1 := B1.size
  generalize hW : w3.alloc (.cells #[.pointer (some ⟨w1.heap.size, 0, none⟩), .pointer (some ⟨w2.heap.size, 0, none⟩)] 30) = W at *
  have kd : Dk W w1.heap.size (.map none) (.map none) (.slice none 0 0) 0 0 false false := (k2.same (b23.block _ (by omega))).same (b34.block _ (by omega))
  have kr : Rk W w2.heap.size (.slice none 0 0) (.slice none 0 0) (.slice none 0 0) (.slice none 0 0) 0 (-1) false := (b34.block _ (by omega)).trans k3
  have hJ : Jg W (fun j => j < w.heap.size ∨ j = w3.heap.size) w1.heap.size w2.heap.size PD.new (-1) false PD.new (-1) false := jg_new kd kr (by omega) (fun j e => by
    rcases e with e | e <;> refine ⟨?_, ?_, ?_⟩ <;> omega)
  have hB : Below w.heap.size w W := ((B1.trans (b12.mono sz1)).trans (b23.mono (by omega))).trans (b34.mono (by omega))
  have HJ := hide2 hJ
  have HWX := hide2 hWx
  have HB := hide2 hB
  have hxw : w.heap.size < w3.heap.size := by omega
  clear hJ hWx hB b12 b23 b34 k2 k3 kd kr B1 s2 s3 s4 sz1
  go_wp2
  try rw [hW]
  generalize w3.heap.size = x at *
  generalize w1.heap.size = d0 at *
  generalize w2.heap.size = r0 at *
  clear hW
  go_loopw [5] (fun i wr => ∃ k : Nat, k ≤ len ∧ k ≤ 200 ∧ i = .int .i64 (k : Int) ∧ (∃ d r P c o, Jg wr (fun j => j < w.heap.size ∨ j = x) d r P c o P c o ∧ Wx wr x d r) ∧ Below w.heap.size w wr) (fun i _ => len - (intOf i).toNat)
  case atStart => exact ⟨0, by omega, by omega, rfl, ⟨_, _, _, _, _, HJ.out, HWX.out⟩, HB.out⟩
  case round =>
    clear HJ HWX HB
    obtain ⟨k, hk, hk2, rfl, ⟨d, r, P, c, o, hj, hx⟩, hb⟩ := hrel
    by_cases hlt : k < len ∧ k < 200
    · obtain ⟨hlt, hlt2⟩ := hlt
      obtain ⟨h1, h2, h3, h4, h5⟩ := HH.out.below hb
      obtain ⟨b, off, rfl, hbl, hc⟩ := h5 (by omega)
      obtain ⟨q, hq⟩ : ∃ q, os[k]? = some q := ⟨os[k]'(by omega), List.getElem?_eq_getElem (by omega)⟩
      have hmem := List.mem_of_getElem? hq
      have c0 := hc k q hq 0 _ rfl
      have c1 := hc k q hq 1 _ rfl
      have c2 := hc k q hq 2 _ rfl
      have c3 := hc k q hq 3 _ rfl
      have c4 := hc k q hq 4 _ rfl
      have c5 := hc k q hq 5 _ rfl
      have c6 := hc k q hq 6 _ rfl
      have c7 := hc k q hq 7 _ rfl
      rw [Nat.add_zero] at c0
      have hd := does_any hj hx (.inr rfl) q (h4 q hmem) (HBS.out q hmem) (fun h0 b off e => by
        have := HLOW.out.2 q hmem h0 b off e
        exact ⟨.inl this, by omega⟩)
      unfold OpR.val at hd
      have HD := hide2 hd
      have HBK := hide2 hb
      have hi1 : (k : Int) < (len : Int) := by omega
      have hi2 : (k : Int) < 200 := by omega
      clear hd hc h1 h2 h3 h4 h5 hj hx hmem hq hb
      go_wp2_with fail
      refine HD.out.mono ?_
      rintro e w5 ⟨rfl, d5, r5, P5, c5', o5, hj5, hx5, F5⟩
      have hb5 : Below w.heap.size w w5 := HBK.out.trans (F5.to (fun j hj e => by
        rcases e with e | e
        · exact e (.inl hj)
        · omega) HBK.out.size)
      have HA := hide2 (alike_any hj5 hx5)
      have HJ5 := hide2 hj5
      have HX5 := hide2 hx5
      have HB5 := hide2 hb5
      clear HD HBK c0 c1 c2 c3 c4 c5 c6 c7 hj5 hx5 F5 hb5
      go_wp2_with fail
      refine HA.out.mono ?_
      rintro e w6 ⟨rfl, B6⟩
      have HJ6 := hide2 (HJ5.out.keep (Fr.below B6) (fun j e => .inl e))
      have HX6 := hide2 (HX5.out.below B6)
      have HB6 := hide2 (HB5.out.trans (B6.mono HB5.out.size))
      clear HA HJ5 HX5 HB5 B6
      go_wp2
      go_roundw
      case rel => exact ⟨k + 1, by omega, by omega, by go_num, ⟨_, _, _, _, _, HJ6.out, HX6.out⟩, HB6.out⟩
      case measure => simp [intOf]; omega
    · have HBK := hide2 hb
      clear hj hx hb
      have HN := hide2 (Land.nothing_walk wr)
      by_cases hl : k < len
      · have hi1 : (k : Int) < (len : Int) := by omega
        have hi2 : ¬ (k : Int) < 200 := by omega
        go_wp2_with fail
        refine HN.out.mono ?_
        rintro e w7 ⟨rfl, B7⟩
        go_wp2
        go_ret
        exact ⟨rfl, HBK.out.trans (B7.mono HBK.out.size)⟩
      · have hi1 : ¬ (k : Int) < (len : Int) := by omega
        go_wp2_with fail
        refine HN.out.mono ?_
        rintro e w7 ⟨rfl, B7⟩
        go_wp2
        go_ret
        exact ⟨rfl, HBK.out.trans (B7.mono HBK.out.size)⟩
end Go.Proofs.Ytmggmnbialacbaa
