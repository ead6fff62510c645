/-
  What a crash leaves of a file.
-/
import Derived.Test.YtgifcgniphncdaaGreatDoorDe6
import Derived.Deep.RegionHeld3
set_option linter.unusedVariables false
set_option linter.unusedSimpArgs false
namespace Go.Proofs.YtgifcgniphncdaaGreatDoor
open Go.RowKit Go.Maps

/-- How many of all are meant. -/
def shr (a : Int) (n : Nat) : Nat := (min a n).toNat
theorem shr_le (a : Int) (n : Nat) : shr a n ≤ n := by unfold shr; omega

set_option maxHeartbeats 400000 in
theorem share_any (a : Int) (n : Nat) (w : World) :
    Calls Tryz.prog 58 #[.int .i64 a, .int .i64 (n : Int)] w fun e w' => e = .returned (.int .i64 (shr a n : Int)) ∧ w' = w := by
  go_enter Tryz.func58, Tryz.ntmps58
  go_wp2
  all_goals go_ret
  all_goals exact ⟨ret_int (by unfold shr; omega), rfl⟩

/-- An own row whose byte at a place is another one. -/
theorem Own.set {w : World} {base g l cap : Nat} {ys : List Int} (h : Own w base (.slice (some ⟨g, 0, none⟩) l cap) ys) (j : Nat) (hj : j < ys.length) (x : Int) :
    Own (w.setCell ⟨g, j, none⟩ (.int .u8 x)) base (.slice (some ⟨g, 0, none⟩) l cap) (ys.set j x) := by
  obtain ⟨h1, h2⟩ := h
  rcases h2 with ⟨e, _⟩ | ⟨g', cap', cur, e, hb, hh, hn, hm, hs, ht⟩
  · cases e
  · cases e
    refine ⟨by simp [bc], .inr ⟨g, cap, cur.setIfInBounds j (.int .u8 x), by simp, hb, Go.Joins.block_setCell hh _, by simpa using hn, hm, by simpa using hs, ?_⟩⟩
    simp only [List.length_set, Array.toList_setIfInBounds]
    rw [List.take_set, ht]
    simp [bc, List.map_set]
theorem Own.at {w : World} {base g l cap : Nat} {ys : List Int} (h : Own w base (.slice (some ⟨g, 0, none⟩) l cap) ys) (j : Nat) (hj : j < ys.length) : w.cell? ⟨g, j, none⟩ = some (.int .u8 (ys.getD j 0)) ∧ w.frozen? ⟨g, j, none⟩ = false ∧ l = ys.length ∧ l ≤ cap ∧ g < w.heap.size ∧ base ≤ g := by
  obtain ⟨h1, h2⟩ := h
  rcases h2 with ⟨e, _⟩ | ⟨g', cap', cur, e, hb, hh, hn, hm, hs, ht⟩
  · cases e
  · cases e
    refine ⟨?_, Go.Joins.unfrozen_of_block hh j, rfl, hn, (Array.getElem?_eq_some_iff.1 hh).1, hb⟩
    rw [Go.Joins.cell_of_block hh]
    have e : (cur.toList.take (ys.length * 1))[j]? = (bc ys)[j]? := by rw [ht]
    rw [List.getElem?_take_of_lt (by omega)] at e
    rw [← Array.getElem?_toList, e]
    simp [bc, List.getD, List.getElem?_eq_getElem hj]

/-- A byte turned. -/
def tb (x : Int) : Int := ((x.toNat ^^^ 255 : Nat) : Int)
theorem tb_byt (x : Int) (h1 : x ≤ 255) : 0 ≤ tb x ∧ tb x ≤ 255 := by
  have : x.toNat ^^^ 255 < 2 ^ 8 := Nat.xor_lt_two_pow (by omega) (by omega)
  unfold tb
  omega

/-- The last so many bytes turned. -/
def turnL (ys : List Int) (k : Nat) : List Int := ys.take (ys.length - k) ++ (ys.drop (ys.length - k)).map tb
theorem turnL_length (ys : List Int) (k : Nat) : (turnL ys k).length = ys.length := by simp [turnL]
theorem turnL_zero (ys : List Int) : turnL ys 0 = ys := by simp [turnL]
theorem turnL_get (ys : List Int) (k j : Nat) (hj : j < ys.length) (hk : k ≤ ys.length) : (turnL ys k).getD j 0 = if j < ys.length - k then ys.getD j 0 else tb (ys.getD j 0) := by
  unfold turnL
  simp only [List.getD]
  by_cases h : j < ys.length - k
  · rw [if_pos h, List.getElem?_append_left (by simp; omega), List.getElem?_take_of_lt h]
  · rw [if_neg h, List.getElem?_append_right (by simp; omega)]
    simp only [List.length_take, List.getElem?_map, List.getElem?_drop]
    rw [show ys.length - k + (j - min (ys.length - k) ys.length) = j from by omega, List.getElem?_eq_getElem hj]
    rfl
theorem turnL_step (ys : List Int) (k : Nat) (hk : k < ys.length) : (turnL ys k).set (ys.length - 1 - k) (tb (ys.getD (ys.length - 1 - k) 0)) = turnL ys (k + 1) := by
  apply List.ext_getElem?
  intro j
  by_cases hj : j < ys.length
  · have e1 : ∀ m, m ≤ ys.length → (turnL ys m)[j]? = some ((turnL ys m).getD j 0) := fun m hm => by
      rw [List.getD, List.getElem?_eq_getElem (by rw [turnL_length]; exact hj)]; rfl
    by_cases e : j = ys.length - 1 - k
    · subst e
      rw [List.getElem?_set_self (by rw [turnL_length]; exact hj), e1 _ (by omega), turnL_get _ _ _ hj (by omega), if_neg (by omega)]
    · rw [List.getElem?_set_ne (by omega), e1 _ (by omega), e1 _ (by omega), turnL_get _ _ _ hj (by omega), turnL_get _ _ _ hj (by omega)]
      by_cases h : j < ys.length - k
      · rw [if_pos h, if_pos (by omega)]
      · rw [if_neg h, if_neg (by omega)]
  · rw [List.getElem?_eq_none (by rw [List.length_set, turnL_length]; omega), List.getElem?_eq_none (by rw [turnL_length]; omega)]
theorem turnL_byt {ys : List Int} (h : Byt ys) (k : Nat) : Byt (turnL ys k) := by
  unfold turnL
  refine (h.take _).append ?_
  intro y hy
  obtain ⟨x, hx, rfl⟩ := List.mem_map.1 hy
  exact tb_byt x (h.drop _ x hx).2

theorem wrap_small (x : Int) (h0 : 0 ≤ x) (h1 : x ≤ 1000000) : IntKind.i64.wrap x = x := IntWalk.i64_in x ⟨by omega, by omega⟩
def Zc (W u : World) (ao : Option Addr) (l cap : Nat) (ys : List Int) : Prop := Sl u ao l cap ys ∧ Below W.heap.size W u
theorem Tryz.size5' (u : World) : (Go.sizeOf 5).run Tryz.prog u = .ok 1 u := by kernel_rfl
theorem xor255 (x : Int) (h0 : 0 ≤ x) (h1 : x ≤ 255) : bits BinOp.xor IntKind.u8 x 255 = tb x := u8_xor x 255 h0 (by omega) (by decide) (by decide)

set_option maxHeartbeats 1000000 in
set_option maxRecDepth 100000 in
theorem crashed_any {w : World} {f sy : Nat} {ao : Option Addr} {len cap : Nat} {xs : List Int} (hf : Fl w f (.slice ao len cap) sy) (hx : Sl w ao len cap xs) (hsy : sy ≤ len) (hl : len ≤ 262144) (ke di te : Int) :
    Calls Tryz.prog 59 #[.pointer (some ⟨f, 0, none⟩), .agg #[.int .i64 ke, .int .i64 di, .int .i64 te]] w fun e w' =>
      ∃ f' v, e = .returned (.pointer (some ⟨f', 0, none⟩)) ∧ w.heap.size ≤ f' ∧ Fl w' f' v (sy + shr ke (len - sy)) ∧ Own w' w.heap.size v (turnL (xs.take (sy + shr ke (len - sy))) (shr te (shr ke (len - sy)))) ∧ Below w.heap.size w w' := by
  have hlt := hf.lt
  have hst := shr_le ke (len - sy)
  obtain ⟨st, hSt⟩ : ∃ st, st = shr ke (len - sy) := ⟨_, rfl⟩
  have hsh1 : ∀ q, Calls Tryz.prog 58 #[.int .i64 ke, .int .i64 ((len : Int) - (sy : Int))] ((w.alloc (.cells #[.int .i64 ke, .int .i64 di, .int .i64 te] 39)).drewN q) fun e w' => e = .returned (.int .i64 (st : Int)) ∧ w' = (w.alloc (.cells #[.int .i64 ke, .int .i64 di, .int .i64 te] 39)).drewN q := fun q => by
    have := share_any ke (len - sy) ((w.alloc (.cells #[.int .i64 ke, .int .i64 di, .int .i64 te] 39)).drewN q)
    rw [← hSt, Int.ofNat_sub hsy] at this
    exact this
  obtain ⟨c0, c1⟩ := hf.cells
  rw [← hSt] at hst ⊢
  clear hSt
  obtain ⟨t, hT⟩ : ∃ t, t = shr te st := ⟨_, rfl⟩
  obtain ⟨ys, hY⟩ : ∃ ys, ys = xs.take (sy + st) := ⟨_, rfl⟩
  rw [← hT, ← hY]
  have HT := hide2 hT
  have HY := hide2 hY
  clear hT hY
  have b0 : Below w.heap.size w (w.alloc (.cells #[.int .i64 ke, .int .i64 di, .int .i64 te] 39)) := (Below.refl _ _).alloc (Nat.le_refl _) _
  have hl0 : (sy : Int) ≤ (len : Int) := by omega
  have hl1 : (len : Int) ≤ 262144 := by omega
  go_enter Tryz.func59, Tryz.ntmps59
  go_wp2
  go_quiet ((go_at_call 58; exact Calls.quiet_of_same (hsh1 _)))
  -- REGION2
  have b1 : Below w.heap.size w ((w.alloc (.cells #[.int .i64 ke, .int .i64 di, .int .i64 te] 39)).drewN nq) := b0.trans ⟨rfl, rfl, rfl, Nat.le_refl _, fun _ _ => rfl⟩
  have hfa : ((w.alloc (.cells #[.int .i64 ke, .int .i64 di, .int .i64 te] 39)).drewN nq).heap[w.heap.size]? = some (.cells #[.int .i64 ke, .int .i64 di, .int .i64 te] 39 (0, 0)) := heap_alloc_new w _
  have hs1 : ((w.alloc (.cells #[.int .i64 ke, .int .i64 di, .int .i64 te] 39)).drewN nq).heap.size = w.heap.size + 1 := (by simp : (w.alloc (.cells #[.int .i64 ke, .int .i64 di, .int .i64 te] 39)).heap.size = w.heap.size + 1)
  clear hsh1 b0
  generalize (w.alloc (.cells #[.int .i64 ke, .int .i64 di, .int .i64 te] 39)).drewN nq = W at b1 hfa hs1 ⊢
  have f1 : Fl W f (.slice ao len cap) sy := (b1.block f hlt).trans hf
  have x1 := hx.below b1
  obtain ⟨ac, hcut, slC⟩ := x1.upto (P := Tryz.prog) 40 Tryz.underlying40 Tryz.size5' (sy + st) (by omega)
  rw [Int.natCast_add] at hcut
  clear c0 c1
  obtain ⟨c0, c1⟩ := f1.cells
  have hst0 : (st : Int) ≤ 262144 := by omega
  have HX := hide2 hx
  have HF := hide2 hf
  have B1 := hide2 b1
  clear hx hf b1 x1
  go_wp2
  refine wp_region_noPanic ?_
  refine wp_region_held_drew (S := fun u => u.cell? ⟨f, 0, none⟩ = some (.slice ao len cap) ∧ u.cell? ⟨f, 1, none⟩ = some (.int .i64 (sy : Int)) ∧ Zc W u ac (sy + st) cap (xs.take (sy + st))) (by kernel_rfl) (⟨c0, c1, ⟨slC.drewN 1, ⟨rfl, rfl, rfl, Nat.le_refl _, fun _ _ => rfl⟩⟩⟩) (fun hHeld => ?_)
  refine wpAnyH_take (i := 0) (oi := { dst := some 21, op := _, type := _, pos := _, after := _, guard := _ }) (v := ?_) rfl (by kernel_rfl) (by kernel_rfl) (by kernel_rfl) (fun _ _ _ h => h) (Or.inl ⟨by rfl, ?_⟩) (by assumption) ?_
  rotate_left 1
  · intro u hSw; obtain ⟨hSw1, hSw2, hSw3⟩ := hSw; go_simp; try with_reducible rfl
  try simp only [Act.put, List.setIfInBounds_toArray, List.set_cons_zero, List.set_cons_succ]
  refine wpAnyH_take (i := 1) (oi := { dst := some 22, op := _, type := _, pos := _, after := _, guard := _ }) (v := ?_) rfl (by kernel_rfl) (by kernel_rfl) (by kernel_rfl) (fun _ _ _ h => h) (Or.inl ⟨by rfl, ?_⟩) (by assumption) ?_
  rotate_left 1
  · intro u hSw; obtain ⟨hSw1, hSw2, hSw3⟩ := hSw; go_simp; try with_reducible rfl
  try simp only [Act.put, List.setIfInBounds_toArray, List.set_cons_zero, List.set_cons_succ]
  refine wpAnyH_take (i := 2) (oi := { dst := some 23, op := _, type := _, pos := _, after := _, guard := _ }) (v := ?_) rfl (by kernel_rfl) (by kernel_rfl) (by kernel_rfl) (fun _ _ _ h => h) (Or.inl ⟨by rfl, ?_⟩) (by assumption) ?_
  rotate_left 1
  · intro u hSw; obtain ⟨hSw1, hSw2, hSw3⟩ := hSw; go_simp; try with_reducible rfl
  try simp only [Act.put, List.setIfInBounds_toArray, List.set_cons_zero, List.set_cons_succ]
  refine wpAnyH_take (i := 3) (oi := { dst := some 24, op := _, type := _, pos := _, after := _, guard := _ }) (v := ?_) rfl (by kernel_rfl) (by kernel_rfl) (by kernel_rfl) (fun _ _ _ h => h) (Or.inl ⟨by rfl, ?_⟩) (by assumption) ?_
  rotate_left 1
  · intro u hSw; obtain ⟨hSw1, hSw2, hSw3⟩ := hSw; go_simp; try with_reducible rfl
  try simp only [Act.put, List.setIfInBounds_toArray, List.set_cons_zero, List.set_cons_succ]
  refine wpAnyH_take (i := 4) (oi := { dst := some 25, op := _, type := _, pos := _, after := _, guard := _ }) (v := ?_) rfl (by kernel_rfl) (by kernel_rfl) (by kernel_rfl) (fun _ _ _ h => h) (Or.inl ⟨by rfl, ?_⟩) (by assumption) ?_
  rotate_left 1
  · intro u hSw; obtain ⟨hSw1, hSw2, hSw3⟩ := hSw; go_simp; try with_reducible rfl
  try simp only [Act.put, List.setIfInBounds_toArray, List.set_cons_zero, List.set_cons_succ]
  refine wpAnyH_take (i := 5) (oi := { dst := some 26, op := _, type := _, pos := _, after := _, guard := _ }) (v := ?_) rfl (by kernel_rfl) (by kernel_rfl) (by kernel_rfl) (fun _ _ _ h => h) (Or.inl ⟨by rfl, ?_⟩) (by assumption) ?_
  rotate_left 1
  · intro u hSw; obtain ⟨hSw1, hSw2, hSw3⟩ := hSw; go_simp; try with_reducible rfl
  try simp only [Act.put, List.setIfInBounds_toArray, List.set_cons_zero, List.set_cons_succ]
  refine wpAnyH_take (i := 6) (oi := { dst := some 27, op := _, type := _, pos := _, after := _, guard := _ }) (v := ?_) rfl (by kernel_rfl) (by kernel_rfl) (by kernel_rfl) (fun _ _ _ h => h) (Or.inl ⟨by rfl, ?_⟩) (by assumption) ?_
  rotate_left 1
  · intro u hSw; obtain ⟨hSw1, hSw2, hSw3⟩ := hSw; go_simp; try with_reducible rfl
  try simp only [Act.put, List.setIfInBounds_toArray, List.set_cons_zero, List.set_cons_succ]
  refine wpAnyH_take (i := 7) (oi := { dst := some 28, op := _, type := _, pos := _, after := _, guard := _ }) (v := ?_) rfl (by kernel_rfl) (by kernel_rfl) (by kernel_rfl) (fun _ _ _ h => h) (Or.inl ⟨by rfl, ?_⟩) (by assumption) ?_
  rotate_left 1
  · intro u hSw; obtain ⟨hSw1, hSw2, hSw3⟩ := hSw; go_simp; try with_reducible rfl
  try simp only [Act.put, List.setIfInBounds_toArray, List.set_cons_zero, List.set_cons_succ]
  refine wpAnyH_take (i := 8) (oi := { dst := some 29, op := _, type := _, pos := _, after := _, guard := _ }) (v := ?_) rfl (by kernel_rfl) (by kernel_rfl) (by kernel_rfl) (fun _ _ _ h => h) (Or.inl ⟨by rfl, ?_⟩) (by assumption) ?_
  rotate_left 1
  · intro u hSw; obtain ⟨hSw1, hSw2, hSw3⟩ := hSw; go_simp; try with_reducible rfl
  try simp only [Act.put, List.setIfInBounds_toArray, List.set_cons_zero, List.set_cons_succ]
  have hwr : IntKind.i64.wrap ((sy : Int) + (st : Int)) = (sy : Int) + (st : Int) := wrap_small _ (by omega) (by omega)
  refine wpAnyH_take (i := 9) (oi := { dst := some 30, op := _, type := _, pos := _, after := _, guard := _ }) (v := ?_) rfl (by kernel_rfl) (by kernel_rfl) (by kernel_rfl) (fun _ _ _ h => h) (Or.inl ⟨by rfl, ?_⟩) (by assumption) ?_
  rotate_left 1
  · intro u hSw; obtain ⟨hSw1, hSw2, hSw3⟩ := hSw; go_simp; try with_reducible rfl
  try simp only [Act.put, List.setIfInBounds_toArray, List.set_cons_zero, List.set_cons_succ]
  refine wpAnyH_take (i := 10) (oi := { dst := some 31, op := _, type := _, pos := _, after := _, guard := _ }) (v := ?_) rfl (by kernel_rfl) (by kernel_rfl) (by kernel_rfl) (fun _ _ _ h => h) (Or.inl ⟨by rfl, ?_⟩) (by assumption) ?_
  rotate_left 1
  · intro u hSw; obtain ⟨hSw1, hSw2, hSw3⟩ := hSw; go_simp; try with_reducible rfl
  try simp only [Act.put, List.setIfInBounds_toArray, List.set_cons_zero, List.set_cons_succ]
  clear hwr
  refine wpAnyH_ready (rs := [11]) (by kernel_rfl) (by simp) ?_
  refine AllReadyH.cons (o := { dst := some 32, op := _, type := _, pos := _, after := _, guard := _ }) rfl (fun K hK => ?_) AllReadyH.nil
  go_simp
  obtain ⟨e1, e2, e3⟩ := (by assumption : (_ ∧ _ ∧ Zc _ _ _ _ _ _))
  refine (cloneBytes_any e3.1 (by omega)).mono ?_
  rintro e w3 ⟨v, rfl, own3, b3⟩
  go_wp2_with fail
  refine hK.out _ _ (⟨(b3.cell (p := ⟨f, 0, none⟩) (by have := e3.2.size; show f < _; omega)).trans e1, (b3.cell (p := ⟨f, 1, none⟩) (by have := e3.2.size; show f < _; omega)).trans e2, ⟨e3.1.below b3, e3.2.trans (b3.mono e3.2.size)⟩⟩) (fun hHeld => ?_)
  clear hK K
  try simp only [Act.put, List.setIfInBounds_toArray, List.set_cons_zero, List.set_cons_succ]
  refine wpAnyH_take (i := 12) (oi := { dst := some 6, op := _, type := _, pos := _, after := _, guard := _ }) (v := ?_) rfl (by kernel_rfl) (by kernel_rfl) (by kernel_rfl) (fun _ _ _ h => h) (Or.inl ⟨by rfl, ?_⟩) (by assumption) ?_
  rotate_left 1
  · intro u hSw; obtain ⟨hSw1, hSw2, hSw3⟩ := hSw; go_simp; try with_reducible rfl
  try simp only [Act.put, List.setIfInBounds_toArray, List.set_cons_zero, List.set_cons_succ]
  refine wpAnyH_done (by kernel_rfl) ?_ _
  refine NoPanic.normal ?_
  clear hHeld
  have hxl := HX.out.1
  have hyl : (xs.take (sy + st)).length = sy + st := by simp; omega
  have hby : Byt (xs.take (sy + st)) := HX.out.2.2.2.1.take _
  have bW : Below W.heap.size W w3 := ⟨b3.os, b3.tape, b3.output, b3.size, b3.block⟩
  have own3' : Own w3 W.heap.size v (xs.take (sy + st)) := own3
  have hsz3 := bW.size
  have fa3 : w3.heap[w.heap.size]? = some (.cells #[.int .i64 ke, .int .i64 di, .int .i64 te] 39 (0, 0)) := (bW.block _ (by omega)).trans hfa
  have ce : w3.cell? ⟨w.heap.size, 2, none⟩ = some (.int .i64 te) := by rw [Go.Joins.cell_of_block fa3]; rfl
  have hsh2 := share_any te st w3
  have htle := shr_le te st
  rw [← HT.out] at hsh2 htle
  rw [← HY.out] at own3' hyl hby
  clear HT HY own3 b3 e1 e2 e3 hcut slC hfa fa3 c0 c1
  have B3 : Below w.heap.size w w3 := B1.out.trans (bW.mono (by omega))
  have htl : (t : Int) ≤ (st : Int) := by omega
  go_wp2_with fail
  refine hsh2.mono ?_
  rintro e w4 ⟨rfl, hw4⟩
  rw [hw4]
  clear hsh2 ce hw4
  rcases own3'.2 with ⟨rfl, h0⟩ | ⟨g, cap3, cur, rfl, hg, hcur, hn3, hm3, hcs, hct⟩
  · obtain rfl : sy = 0 := by omega
    obtain rfl : st = 0 := by omega
    obtain rfl : t = 0 := by omega
    obtain rfl : ys = [] := List.eq_nil_of_length_eq_zero hyl
    have B4 := hide2 B3
    clear B3
    go_wp2
    go_loopw [37, 7] (fun i _ wr => i = .int .i64 0 ∧ wr = w3) (fun _ _ _ => 0)
    case atStart => exact ⟨rfl, rfl⟩
    case round =>
      obtain ⟨rfl, rfl⟩ := hrel
      go_wp2
      go_ret
      refine ⟨_, _, rfl, by omega, heap_alloc_new _ _, ?_, B4.out.trans ((Below.refl _ _).alloc (by omega) _)⟩
      exact World.ownsRow_nil _ _ _ _
  · have B4 := hide2 B3
    rw [hyl] at own3' ⊢
    have own0 : Own w3 W.heap.size (.slice (some ⟨g, 0, none⟩) (sy + st) cap3) (turnL ys 0) := by rw [turnL_zero]; exact own3'
    have hglt : g < w3.heap.size := (Array.getElem?_eq_some_iff.1 hcur).1
    have hcapm : (cap3 : Int) ≤ 9223372036854775807 := by unfold maxLen at hm3; omega
    have hnc : (sy : Int) + (st : Int) ≤ (cap3 : Int) := by omega
    obtain ⟨N, hN⟩ : ∃ N, N = sy + st := ⟨_, rfl⟩
    rw [← hN] at own0 hyl ⊢
    have hNt : t ≤ N := by omega
    have hNl : (N : Int) ≤ 262144 := by omega
    have HN := hide2 hN
    clear B3 hct hcur own3' hn3 hcs hN hst hst0 hnc hl0 hl1 hsy
    go_wp2
    go_loopw [37, 7] (fun i _ wr => ∃ k : Nat, k ≤ t ∧ i = .int .i64 (k : Int) ∧ Own wr W.heap.size (.slice (some ⟨g, 0, none⟩) N cap3) (turnL ys k) ∧ w3.grownBy wr (some g)) (fun i _ _ => t - (intOf i).toNat)
    case atStart => exact ⟨0, by omega, rfl, own0, World.grownBy.refl _ _⟩
    case round =>
      obtain ⟨k, hk, rfl, own4, gr4⟩ := hrel
      by_cases hlt2 : k < t
      · have hjl : N - 1 - k < (turnL ys k).length := by rw [turnL_length]; omega
        obtain ⟨q1, q2, -, q4, q5, q6⟩ := own4.at (N - 1 - k) hjl
        rw [turnL_get ys k (N - 1 - k) (by omega) (by omega), if_pos (by omega)] at q1
        have hb4 := hby.getD (N - 1 - k)
        have hxo := xor255 (ys.getD (N - 1 - k) 0) hb4.1 hb4.2
        have own5 := own4.set (N - 1 - k) hjl (tb (ys.getD (N - 1 - k) 0))
        have hstep : (turnL ys k).set (N - 1 - k) (tb (ys.getD (N - 1 - k) 0)) = turnL ys (k + 1) := by rw [← hyl]; exact turnL_step ys k (by omega)
        rw [hstep] at own5
        have gr5 := grownBy_setCell (j := N - 1 - k) (u := .int .u8 (tb (ys.getD (N - 1 - k) 0))) gr4
        have hk1 : (k : Int) < (t : Int) := by omega
        have hk2 : (k : Int) + 1 ≤ (N : Int) := by omega
        have OWN5 := hide2 own5
        have GR5 := hide2 gr5
        clear hstep own5 gr5 own4 gr4 own0 hjl
        generalize ys.getD (N - 1 - k) 0 = x at q1 hb4 hxo OWN5 GR5
        go_wp2
        go_roundw
        case rel => exact ⟨k + 1, by omega, by go_num, OWN5.out, GR5.out⟩
        case measure => simp [intOf]; omega
      · obtain rfl : k = t := by omega
        have OWN4 := hide2 own4
        have GR4 := hide2 gr4
        have s4 := gr4.size
        clear own4 gr4 own0
        go_wp2
        go_ret
        have F4 : Below w.heap.size w wr := by
          have := B4.out
          exact this.grown GR4.out (by omega) (fun k e => by cases e; omega)
        refine ⟨wr.heap.size, .slice (some ⟨g, 0, none⟩) N cap3, rfl, by omega, ?_, ?_, F4.trans ((Below.refl _ _).alloc (by omega) _)⟩
        · have e := HN.out
          rw [← e]
          exact heap_alloc_new _ _
        · exact Go.Joins.ownsRow_le (OWN4.out.alloc _) (by omega)
end Go.Proofs.YtgifcgniphncdaaGreatDoor
