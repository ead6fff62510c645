/-
  begin, Insert, Lookup: an operation is made.
-/
import Derived.Test.YtbpihkojmbfccaaDoorHa8
set_option linter.unusedVariables false
set_option linter.unusedSimpArgs false
namespace Go.Proofs.YtbpihkojmbfccaaDoor
open Go.RowKit Go.Maps

/-- An operation at its beginning. -/
def o0 : Opm := ⟨false, .empty, 0, false, 0, 0, 0, none, false, 0⟩
theorem new_op (w : World) (tv : Value) : Om (w.alloc (.cells #[tv, .bool false, .string .empty, .int .i64 0, .bool false, .int .i64 0, .int .i64 0, .int .i64 0, .int .i64 (-1), .bool false] 69)) w.heap.size tv o0 := heap_alloc_new w _

section
variable {w w' : World} {tb d mb hb hc n : Nat} {sv : Value}

set_option maxRecDepth 100000 in
set_option maxHeartbeats 2000000 in
theorem begin_nil (w : World) (k : ByteArray) :
    Calls Tryd.prog 30 #[.pointer none, .string k] w fun e w' => e = .returned (.pointer (some ⟨w.heap.size, 0, none⟩)) ∧ Om w' w.heap.size (.pointer none) o0 ∧ Below w.heap.size w w' := by
  have HO := hide2 (new_op w (.pointer none))
  have HN := hide2 (isNone_nil (w.alloc (.cells #[.pointer none, .bool false, .string .empty, .int .i64 0, .bool false, .int .i64 0, .int .i64 0, .int .i64 0, .int .i64 (-1), .bool false] 69)))
  go_enter Tryd.func30, Tryd.ntmps30
  go_wp2_with fail
  refine HN.out.mono ?_
  rintro e w1 ⟨rfl, q1⟩
  subst q1
  go_wp2
  go_ret
  exact ⟨rfl, HO.out, (Below.refl _ _).alloc (Nat.le_refl _) _⟩

set_option maxRecDepth 100000 in
set_option maxHeartbeats 2000000 in
theorem begin_bad {ao : Option Addr} (h : Tk4 w tb d (.slice ao n hc) mb sv) (hn : 1 ≤ n) (k : ByteArray) (hkl : k.size ≤ maxLen) (hk : good k = false) :
    Calls Tryd.prog 30 #[.pointer (some ⟨tb, 0, none⟩), .string k] w fun e w' => e = .returned (.pointer (some ⟨w.heap.size, 0, none⟩)) ∧ Om w' w.heap.size (tp tb) o0 ∧ Below w.heap.size w w' := by
  have HO := hide2 (new_op w (tp tb))
  obtain ⟨w1, hw1⟩ : ∃ x, x = w.alloc (.cells #[tp tb, .bool false, .string .empty, .int .i64 0, .bool false, .int .i64 0, .int .i64 0, .int .i64 0, .int .i64 (-1), .bool false] 69) := ⟨_, rfl⟩
  have hb1 : Below w.heap.size w w1 := by rw [hw1]; exact (Below.refl _ _).alloc (Nat.le_refl _) _
  have h1 := h.same (hb1.block tb h.lt)
  have HN := hide2 (isNone_raw h1 hn)
  have hm := mayBe_any k hkl w1
  rw [hk] at hm
  have HM := hide2 hm
  clear hm h1 h
  rw [hw1] at HN HM hb1
  clear hw1
  go_enter Tryd.func30, Tryd.ntmps30
  go_wp2_with fail
  refine HN.out.mono ?_
  rintro e w1 ⟨rfl, q1⟩
  subst q1
  go_wp2_with fail
  refine HM.out.mono ?_
  rintro e w1 ⟨rfl, q1⟩
  subst q1
  go_wp2
  go_ret
  exact ⟨rfl, HO.out, hb1⟩

theorem Below.heap_cell_set (w : World) (p a : Addr) (v : Value) (h : a.block ≠ p.block) : (w.setCell p v).cell? a = w.cell? a := World.cell?_of_block (Below.heap_setCell _ _ _ _ h)

set_option maxRecDepth 100000 in
set_option maxHeartbeats 4000000 in
theorem begin_good {l : List Nat} (h : Tk4 w tb d (.slice (some ⟨hb, 0, none⟩) n hc) mb sv) (hr : Hr w 0 (.slice (some ⟨hb, 0, none⟩) n hc) l) (hn : 1 ≤ n ∧ n ≤ 256) (hl : l.length = n) (k : ByteArray) (hk : good k = true) :
    Calls Tryd.prog 30 #[.pointer (some ⟨tb, 0, none⟩), .string k] w fun e w' => e = .returned (.pointer (some ⟨w.heap.size, 0, none⟩)) ∧ Om w' w.heap.size (tp tb) { o0 with k := k, pl := l.getD (bkt n k) 0 } ∧ Below w.heap.size w w' := by
  have hks : 1 ≤ k.size ∧ k.size ≤ 16 := by simpa [good] using hk
  obtain ⟨w1, hw1⟩ : ∃ x, x = w.alloc (.cells #[tp tb, .bool false, .string .empty, .int .i64 0, .bool false, .int .i64 0, .int .i64 0, .int .i64 0, .int .i64 (-1), .bool false] 69) := ⟨_, rfl⟩
  have hO1 : Om w1 w.heap.size (tp tb) o0 := by rw [hw1]; exact new_op w (tp tb)
  have hb1 : Below w.heap.size w w1 := by rw [hw1]; exact (Below.refl _ _).alloc (Nat.le_refl _) _
  have hs1 : w1.heap.size = w.heap.size + 1 := by rw [hw1]; simp
  have htb := h.lt
  obtain ⟨gg, cc, eg, hcell⟩ := hr.at (i := bkt n k) (by rw [hl]; exact Nat.mod_lt _ (by omega))
  have hB : bkt n k < n := Nat.mod_lt _ (by omega)
  have hhb : hb < w.heap.size := (World.ownsRow.lt hr hb rfl).2
  simp only [Value.slice.injEq, Option.some.injEq, Addr.mk.injEq] at eg
  obtain ⟨⟨e1, -, -⟩, -, -⟩ := eg
  subst e1
  have h1 := h.same (hb1.block tb htb)
  have HN := hide2 (isNone_raw h1 hn.1)
  have hm := mayBe_any k (by unfold maxLen; omega) w1
  rw [hk] at hm
  have HM := hide2 hm
  have hcl := clone_any k w1 hks.1 (by omega)
  have HCL := hide2 hcl
  have H := hide2 h
  have HB1 := hide2 hb1
  have HO1 := hide2 hO1
  have HS1 := hide2 hs1
  generalize hBB : bkt n k = B at *
  generalize hX : l.getD B 0 = hx at *
  have HBB := hide2 hBB
  clear hm h1 h hcl hb1 hO1 hs1 hBB hX hr
  have hBi : (B : Int) < (n : Int) := by omega
  subst hw1
  go_enter Tryd.func30, Tryd.ntmps30
  go_wp2_with fail
  refine HN.out.mono ?_
  rintro e w1 ⟨rfl, q1⟩
  subst q1
  go_wp2_with fail
  refine HM.out.mono ?_
  rintro e w1 ⟨rfl, q1⟩
  subst q1
  go_wp2_with fail
  refine HCL.out.mono ?_
  rintro e w2 ⟨rfl, hb2⟩
  have hsz2 := hb2.size
  have hs1 := HS1.out
  have o2a := HO1.out.same (hb2.block w.heap.size HO1.out.lt)
  have f2 := o2a.free 2
  have d2 := o2a.cells.2.2.1
  have ho2 := o2a.lt
  have o2 := o2a.setKey k
  have hF2 : Below w.heap.size w (w2.setCell ⟨w.heap.size, 2, none⟩ (.string k)) := (HB1.out.trans ⟨hb2.os, hb2.tape, hb2.output, hb2.size, fun j hj => hb2.block j (by omega)⟩).trans ⟨rfl, rfl, rfl, by simp [World.setCell], fun j hj => Below.heap_setCell _ _ _ _ (by show j ≠ w.heap.size; omega)⟩
  have O2a := hide2 o2a
  have O2b := hide2 o2
  have HF2 := hide2 hF2
  clear HN HM HCL hb2 o2a o2 hF2 hs1
  go_wp2
  obtain ⟨wb, hwb⟩ : ∃ x, x = w2.setCell ⟨w.heap.size, 2, none⟩ (.string k) := ⟨_, rfl⟩
  rw [← hwb] at O2b HF2 ⊢
  have hFw := HF2.out
  have tk2 := H.out.same (hFw.block tb htb)
  have t1 := tk2.cells.2.1
  have t2 : wb.cell? ⟨hb, B, none⟩ = some (.int .i64 (hx : Int)) := (hFw.cell (p := ⟨hb, B, none⟩) hhb).trans hcell
  have O2 : Hid (Om wb.drew w.heap.size (tp tb) { o0 with k := k }) := hide2 (O2b.out.same rfl)
  have hbk := bucket_any (w := wb.drew) (tk2.same rfl) hn k hk
  rw [HBB.out] at hbk
  have HBK := hide2 hbk
  have hob := O2.out.lt
  have htb2 : tb < wb.drew.heap.size := tk2.lt
  have hhb2 : hb < wb.drew.heap.size := Nat.lt_of_lt_of_le hhb hFw.size
  have hne1 : tb ≠ w.heap.size := by omega
  have hne2 : hb ≠ w.heap.size := by omega
  clear hbk tk2 hFw hwb f2 d2 O2a O2b hcell
  refine wp_region_noPanic ?_
  refine wp_region_held_drew (S := (fun u : World => u.cell? ⟨tb, 1, none⟩ = some (.slice (some ⟨hb, 0, none⟩) n hc) ∧ u.cell? ⟨hb, B, none⟩ = some (.int .i64 (hx : Int)))) (by kernel_rfl) (⟨t1, t2⟩) (fun hHeld => ?_)
  refine wpAnyH_take (i := 0) (oi := { dst := some 21, op := _, type := _, pos := _, after := _, guard := _ }) (v := ?_) rfl (by kernel_rfl) (by kernel_rfl) (by kernel_rfl) (fun _ _ _ h => h) (Or.inl ⟨by rfl, ?_⟩) (by assumption) ?_
  rotate_left 1
  · intro u hSw; obtain ⟨s1, s2⟩ := hSw; go_simp; try with_reducible rfl
  try simp only [Act.put, List.setIfInBounds_toArray, List.set_cons_zero, List.set_cons_succ]
  refine wpAnyH_take (i := 1) (oi := { dst := some 22, op := _, type := _, pos := _, after := _, guard := _ }) (v := ?_) rfl (by kernel_rfl) (by kernel_rfl) (by kernel_rfl) (fun _ _ _ h => h) (Or.inl ⟨by rfl, ?_⟩) (by assumption) ?_
  rotate_left 1
  · intro u hSw; obtain ⟨s1, s2⟩ := hSw; go_simp; try with_reducible rfl
  try simp only [Act.put, List.setIfInBounds_toArray, List.set_cons_zero, List.set_cons_succ]
  refine wpAnyH_take (i := 2) (oi := { dst := some 23, op := _, type := _, pos := _, after := _, guard := _ }) (v := ?_) rfl (by kernel_rfl) (by kernel_rfl) (by kernel_rfl) (fun _ _ _ h => h) (Or.inl ⟨by rfl, ?_⟩) (by assumption) ?_
  rotate_left 1
  · intro u hSw; obtain ⟨s1, s2⟩ := hSw; go_simp; try with_reducible rfl
  try simp only [Act.put, List.setIfInBounds_toArray, List.set_cons_zero, List.set_cons_succ]
  refine wpAnyH_take (i := 3) (oi := { dst := some 24, op := _, type := _, pos := _, after := _, guard := _ }) (v := ?_) rfl (by kernel_rfl) (by kernel_rfl) (by kernel_rfl) (fun _ _ _ h => h) (Or.inl ⟨by rfl, ?_⟩) (by assumption) ?_
  rotate_left 1
  · intro u hSw; obtain ⟨s1, s2⟩ := hSw; go_simp; try with_reducible rfl
  try simp only [Act.put, List.setIfInBounds_toArray, List.set_cons_zero, List.set_cons_succ]
  refine wpAnyH_take (i := 4) (oi := { dst := some 25, op := _, type := _, pos := _, after := _, guard := _ }) (v := ?_) rfl (by kernel_rfl) (by kernel_rfl) (by kernel_rfl) (fun _ _ _ h => h) (Or.inl ⟨by rfl, ?_⟩) (by assumption) ?_
  rotate_left 1
  · intro u hSw; obtain ⟨s1, s2⟩ := hSw; go_simp; try with_reducible rfl
  try simp only [Act.put, List.setIfInBounds_toArray, List.set_cons_zero, List.set_cons_succ]
  refine wpAnyH_take (i := 5) (oi := { dst := some 26, op := _, type := _, pos := _, after := _, guard := _ }) (v := ?_) rfl (by kernel_rfl) (by kernel_rfl) (by kernel_rfl) (fun _ _ _ h => h) (Or.inl ⟨by rfl, ?_⟩) (by assumption) ?_
  rotate_left 1
  · intro u hSw; obtain ⟨s1, s2⟩ := hSw; go_simp; try with_reducible rfl
  try simp only [Act.put, List.setIfInBounds_toArray, List.set_cons_zero, List.set_cons_succ]
  refine wpAnyH_take (i := 6) (oi := { dst := some 27, op := _, type := _, pos := _, after := _, guard := _ }) (v := ?_) rfl (by kernel_rfl) (by kernel_rfl) (by kernel_rfl) (fun _ _ _ h => h) (Or.inl ⟨by rfl, ?_⟩) (by assumption) ?_
  rotate_left 1
  · intro u hSw; obtain ⟨s1, s2⟩ := hSw; go_simp; try with_reducible rfl
  try simp only [Act.put, List.setIfInBounds_toArray, List.set_cons_zero, List.set_cons_succ]
  refine wpAnyH_take (i := 7) (oi := { dst := some 28, op := _, type := _, pos := _, after := _, guard := _ }) (v := ?_) rfl (by kernel_rfl) (by kernel_rfl) (by kernel_rfl) (fun _ _ _ h => h) (Or.inl ⟨by rfl, ?_⟩) (by assumption) ?_
  rotate_left 1
  · intro u hSw; obtain ⟨s1, s2⟩ := hSw; go_simp; try with_reducible rfl
  try simp only [Act.put, List.setIfInBounds_toArray, List.set_cons_zero, List.set_cons_succ]
  refine wpAnyH_ready (rs := [8]) (by kernel_rfl) (by simp) ?_
  refine AllReadyH.cons (o := { dst := some 29, op := _, type := _, pos := _, after := _, guard := _ }) rfl (fun K hK => ?_) AllReadyH.nil
  go_simp
  refine HBK.out.mono ?_
  rintro e w3 ⟨rfl, hb3⟩
  have o3 : Om w3 w.heap.size (tp tb) { o0 with k := k } := O2.out.fr (G := fun _ => False) ⟨hb3.os, hb3.tape, hb3.output, hb3.size, fun j hj _ => hb3.block j hj⟩ id
  have HB3 := hide2 hb3
  have f7 := o3.free 7
  have d7 := o3.cells.2.2.2.2.2.2.2.1
  have O3 := hide2 o3
  have ho3 := o3.lt
  have t13 : w3.cell? ⟨tb, 1, none⟩ = some (.slice (some ⟨hb, 0, none⟩) n hc) := (hb3.cell (p := ⟨tb, 1, none⟩) htb2).trans t1
  have t23 : w3.cell? ⟨hb, B, none⟩ = some (.int .i64 (hx : Int)) := (hb3.cell (p := ⟨hb, B, none⟩) hhb2).trans t2
  clear hb3 o3
  go_wp2_with fail
  refine hK.out _ _ (⟨t13, t23⟩) (fun hHeld => ?_)
  clear hK K
  try simp only [Act.put, List.setIfInBounds_toArray, List.set_cons_zero, List.set_cons_succ]
  refine wpAnyH_take (i := 9) (oi := { dst := some 30, op := _, type := _, pos := _, after := _, guard := _ }) (v := ?_) rfl (by kernel_rfl) (by kernel_rfl) (by kernel_rfl) (fun _ _ _ h => h) (Or.inl ⟨by rfl, ?_⟩) (by assumption) ?_
  rotate_left 1
  · intro u hSw; obtain ⟨s1, s2⟩ := hSw; go_simp; try with_reducible rfl
  try simp only [Act.put, List.setIfInBounds_toArray, List.set_cons_zero, List.set_cons_succ]
  refine wpAnyH_take (i := 10) (oi := { dst := some 31, op := _, type := _, pos := _, after := _, guard := _ }) (v := ?_) rfl (by kernel_rfl) (by kernel_rfl) (by kernel_rfl) (fun _ _ _ h => h) (Or.inl ⟨by rfl, ?_⟩) (by assumption) ?_
  rotate_left 1
  · intro u hSw; obtain ⟨s1, s2⟩ := hSw; go_simp; try with_reducible rfl
  try simp only [Act.put, List.setIfInBounds_toArray, List.set_cons_zero, List.set_cons_succ]
  refine wpAnyH_take (i := 11) (oi := { dst := some 32, op := _, type := _, pos := _, after := _, guard := _ }) (v := ?_) rfl (by kernel_rfl) (by kernel_rfl) (by kernel_rfl) (fun _ _ _ h => h) (Or.inl ⟨by rfl, ?_⟩) (by assumption) ?_
  rotate_left 1
  · intro u hSw; obtain ⟨s1, s2⟩ := hSw; go_simp; try with_reducible rfl
  try simp only [Act.put, List.setIfInBounds_toArray, List.set_cons_zero, List.set_cons_succ]
  refine wpAnyH_take (i := 12) (oi := { dst := some 33, op := _, type := _, pos := _, after := _, guard := _ }) (v := ?_) rfl (by kernel_rfl) (by kernel_rfl) (by kernel_rfl) (fun _ _ _ h => h) (Or.inl ⟨by rfl, ?_⟩) (by assumption) ?_
  rotate_left 1
  · intro u hSw; obtain ⟨s1, s2⟩ := hSw; go_simp; try with_reducible rfl
  try simp only [Act.put, List.setIfInBounds_toArray, List.set_cons_zero, List.set_cons_succ]
  refine wpAnyH_ready (rs := [13]) (by kernel_rfl) (by simp) ?_
  refine AllReadyH.cons (o := { dst := none, op := _, type := _, pos := _, after := _, guard := _ }) rfl (fun K hK => ?_) AllReadyH.nil
  go_simp
  refine hK.out _ _ (⟨(Below.heap_cell_set _ _ _ _ hne1).trans t13, (Below.heap_cell_set _ _ _ _ hne2).trans t23⟩) (fun hHeld => ?_)
  clear hK K
  try simp only [Act.put, List.setIfInBounds_toArray, List.set_cons_zero, List.set_cons_succ]
  refine wpAnyH_done (by kernel_rfl) ?_ _
  refine NoPanic.normal ?_
  go_wp2
  go_ret
  have hbw : Below w.heap.size w w3 := HF2.out.trans ⟨HB3.out.os, HB3.out.tape, HB3.out.output, HB3.out.size, fun j hj => HB3.out.block j (by have := HF2.out.size; exact Nat.lt_of_lt_of_le hj this)⟩
  exact ⟨rfl, O3.out.setAt hx, hbw.trans ⟨rfl, rfl, rfl, by simp [World.setCell], fun j hj => Below.heap_setCell _ _ _ _ (by show j ≠ w.heap.size; omega)⟩⟩

/-- What an operation is at its beginning, of whatever table and key. -/
structure Bgn (w w' : World) (tv : Value) (o : Opm) : Prop where
  om : Om w' w.heap.size tv o
  bl : Below w.heap.size w w'

set_option maxRecDepth 100000 in
set_option maxHeartbeats 2000000 in
theorem Lookup_of {tv : Value} {o : Opm} {k : ByteArray} (hb : Calls Tryd.prog 30 #[tv, .string k] w fun e w' => e = .returned (.pointer (some ⟨w.heap.size, 0, none⟩)) ∧ Om w' w.heap.size tv o ∧ Below w.heap.size w w') :
    Calls Tryd.prog 20 #[tv, .string k] w fun e w' => e = .returned (.pointer (some ⟨w.heap.size, 0, none⟩)) ∧ Om w' w.heap.size tv o ∧ Below w.heap.size w w' := by
  have HB := hide2 hb
  clear hb
  go_enter Tryd.func20, Tryd.ntmps20
  go_wp2_with fail
  refine HB.out.mono ?_
  rintro e w1 ⟨rfl, h1, h2⟩
  go_wp2
  go_ret
  exact ⟨rfl, h1, h2⟩

set_option maxRecDepth 100000 in
set_option maxHeartbeats 2000000 in
theorem Insert_of {tv : Value} {o : Opm} {k : ByteArray} (r : Int) (hb : Calls Tryd.prog 30 #[tv, .string k] w fun e w' => e = .returned (.pointer (some ⟨w.heap.size, 0, none⟩)) ∧ Om w' w.heap.size tv o ∧ Below w.heap.size w w') :
    Calls Tryd.prog 24 #[tv, .string k, .int .i64 r] w fun e w' => e = .returned (.pointer (some ⟨w.heap.size, 0, none⟩)) ∧ Om w' w.heap.size tv { o with ins := true, r := r } ∧ Below w.heap.size w w' := by
  have HB := hide2 hb
  clear hb
  go_enter Tryd.func24, Tryd.ntmps24
  go_wp2_with fail
  refine HB.out.mono ?_
  rintro e w1 ⟨rfl, h1, h2⟩
  obtain ⟨c0, c1, c2, c3, c4, c5, c6, c7, c8, c9⟩ := h1.cells
  have f1 := h1.free 1
  have f3 := h1.free 3
  have hlt := h1.lt
  have H1 := hide2 h1
  have hs := h2.size
  clear HB h1 c0 c2 c4 c5 c6 c7 c8 c9
  go_wp2
  go_ret
  exact ⟨rfl, (H1.out.setIns true).setRef r, (((Fr.below (F := fun j => j = w.heap.size) h2).setCell (p := ⟨w.heap.size, 1, none⟩) (.inl rfl) _).setCell (p := ⟨w.heap.size, 3, none⟩) (.inl rfl) _).to (fun k hk e => by omega) (Nat.le_refl _)⟩
end
end Go.Proofs.YtbpihkojmbfccaaDoor
