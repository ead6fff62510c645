/-
  Rename.
-/
import Derived.Test.YtolaagbdnchhiaaOps2
import Derived.Deep.RegionHeld3
set_option linter.unusedVariables false
set_option linter.unusedSimpArgs false
namespace Go.Proofs.Ytolaagbdnchhiaa
open Go.RowKit Go.Maps

/-- Two boxes of texts, and all that was there. -/
def Zr (w u : World) (n m : Nat) (s t : ByteArray) : Prop := Box u n (.string s) 9 ∧ Box u m (.string t) 9 ∧ Below w.heap.size w u
theorem Zr.below {w u v : World} {n m : Nat} {s t : ByteArray} (h : Zr w u n m s t) (hb : Below u.heap.size u v) : Zr w v n m s t :=
  ⟨(hb.block _ h.1.lt).trans h.1, (hb.block _ h.2.1.lt).trans h.2.1, h.2.2.trans (hb.mono h.2.2.size)⟩
theorem Zr.cells {w u : World} {n m : Nat} {s t : ByteArray} (h : Zr w u n m s t) : u.cell? ⟨n, 0, none⟩ = some (.string s) ∧ u.cell? ⟨m, 0, none⟩ = some (.string t) ∧ Zr w u n m s t := ⟨h.1.cell, h.2.1.cell, h⟩
theorem Zr.set1 {w u : World} {n m : Nat} {s t : ByteArray} (h : Zr w u n m s t) (hnm : n ≠ m) (hn : w.heap.size ≤ n) : Zr w (u.setCell ⟨n, 0, none⟩ (.string s)) n m s t :=
  ⟨h.1.set _, (Below.heap_setCell _ _ _ _ (by simpa using hnm.symm)).trans h.2.1, h.2.2.setCell hn _⟩
theorem Zr.set2 {w u : World} {n m : Nat} {s t : ByteArray} (h : Zr w u n m s t) (hnm : n ≠ m) (hm : w.heap.size ≤ m) : Zr w (u.setCell ⟨m, 0, none⟩ (.string t)) n m s t :=
  ⟨(Below.heap_setCell _ _ _ _ (by simpa using hnm)).trans h.1, h.2.1.set _, h.2.2.setCell hm _⟩

set_option maxHeartbeats 1000000 in
theorem rename_err {w : World} {d : Nat} {mb : Option Nat} {syn since : Value} {ops cutAt : Int} {cuts gone : Bool} {D : DataW Value} (h : Dk w d (.map mb) syn since ops cutAt cuts gone) (hon : On ops cutAt cuts gone) (hd : Dir w mb D)
    (s t : ByteArray) (hs : s.size ≤ maxLen) (ht : t.size ≤ maxLen) (p : Option Addr) (hl : Leads D s p) (x : Int) (hx : x = code (isName t && isName s) p ops) (hne : x ≠ 0) :
    Calls Try.prog 32 #[.pointer (some ⟨d, 0, none⟩), .string s, .string t] w fun e w' => e = .returned (.int .i64 x) ∧ Below w.heap.size w w' := by
  obtain ⟨q1, q2, q3, q4⟩ := alloc3 w (.cells #[.string s] 9) (.cells #[.string t] 9) (.cells #[.string t] 9)
  have b0 : Below w.heap.size w (((w.alloc (.cells #[.string s] 9)).alloc (.cells #[.string t] 9)).alloc (.cells #[.string t] 9)) := (((Below.refl _ _).alloc (Nat.le_refl _) _).alloc (by simp) _).alloc (by simp; omega) _
  have hjm : ∀ j, mb = some j → j < w.heap.size := fun j e => by
    rcases hd with ⟨rfl, _⟩ | ⟨b, n, rfl, ho⟩
    · cases e
    · cases e; exact ho.lt
  have hst := startOn_on1 (h.same (b0.block d h.lt)) hon (Dir.same hd fun j e => b0.block j (hjm j e)) s hs p hl (w.heap.size + 2) 1 t ht (Box.cell (w := ((w.alloc (.cells #[.string s] 9)).alloc (.cells #[.string t] 9)).alloc (.cells #[.string t] 9)) q3)
  rw [← hx] at hst
  clear hx
  go_enter Try.func32, Try.ntmps32
  go_wp2_with fail
  refine hst.mono ?_
  rintro e w' ⟨rfl, q, rfl⟩
  go_wp2
  go_ret
  exact ⟨rfl, b0.trans ⟨rfl, rfl, rfl, Nat.le_refl _, fun _ _ => rfl⟩⟩

set_option maxHeartbeats 4000000 in
set_option maxRecDepth 100000 in
theorem rename_ok {w : World} {d B k b n : Nat} {syn sv : Value} {ops cutAt : Int} {cuts gone : Bool} {D : DataW Value} {cs : List Value}
    (h : Dk w d (.map (some b)) syn sv ops cutAt cuts gone) (hon : On ops cutAt cuts gone) (ho : w.ownsMap Try.prog 9 RV b n D) (hrow : w.ownsRow B 83 1 sv k cs) (hB : B ≤ w.heap.size) (hk : k < 1000000) (hD : Maps.size D < 1000000) (ho0 : 0 ≤ ops) (hops : ops < 65536)
    (s t : ByteArray) (hn : isName s = true) (hnt : isName t = true) (a : Addr) (hl : Leads D s (some a)) :
    Calls Try.prog 32 #[.pointer (some ⟨d, 0, none⟩), .string s, .string t] w fun e w' =>
      ∃ nb mb sv', e = .returned (.int .i64 0) ∧ w.heap.size ≤ nb ∧ w.heap.size ≤ mb ∧ Box w' nb (.string s) 9 ∧ Box w' mb (.string t) 9 ∧ Dk w' d (.map (some b)) syn sv' (ops + 1) cutAt cuts gone ∧ w'.ownsMap Try.prog 9 RV b (Maps.size D + 1) ((D.del (kl s)).put (kl t) (.held (.pointer (some a)))) ∧
        w'.ownsRow B 83 1 sv' (k + 1) (cs ++ [rnCl nb mb]) ∧ (sv'.ownBlock = sv.ownBlock ∨ ∃ j, sv'.ownBlock = some j ∧ w.heap.size ≤ j) ∧ Fr (fun j => j = d ∨ j = b ∨ sv.ownBlock = some j) w w' := by
  have hlt := h.lt
  have hz := isName_size hn
  have hzt := isName_size hnt
  have hs : s.size ≤ maxLen := by unfold maxLen; omega
  have ht : t.size ≤ maxLen := by unfold maxLen; omega
  have hb := ho.lt
  obtain ⟨q1, q2, q3, q4⟩ := alloc3 w (.cells #[.string s] 9) (.cells #[.string t] 9) (.cells #[.string t] 9)
  have b0 : Below w.heap.size w (((w.alloc (.cells #[.string s] 9)).alloc (.cells #[.string t] 9)).alloc (.cells #[.string t] 9)) := (((Below.refl _ _).alloc (Nat.le_refl _) _).alloc (by simp) _).alloc (by simp; omega) _
  have hst := startOn_on1 (h.same (b0.block d hlt)) hon (.inr ⟨b, n, rfl, own_below' ho b0⟩) s hs _ hl (w.heap.size + 2) 1 t ht (Box.cell (w := ((w.alloc (.cells #[.string s] 9)).alloc (.cells #[.string t] 9)).alloc (.cells #[.string t] 9)) q3)
  rw [hn, hnt, Bool.and_true, code_ok hops] at hst
  have hjr : ∀ j, sv.ownBlock = some j → j < w.heap.size := fun j e => by
    obtain ⟨_, _, _, hl⟩ := row_block hrow e
    exact hl
  go_enter Try.func32, Try.ntmps32
  go_wp2_with fail
  refine hst.mono ?_
  rintro e w' ⟨rfl, q, rfl⟩
  have Z1 : Zr w ((((w.alloc (.cells #[.string s] 9)).alloc (.cells #[.string t] 9)).alloc (.cells #[.string t] 9)).drewN q) w.heap.size (w.heap.size + 1) s t := ⟨q1, q2, b0.trans ⟨rfl, rfl, rfl, Nat.le_refl _, fun _ _ => rfl⟩⟩
  generalize (((w.alloc (.cells #[.string s] 9)).alloc (.cells #[.string t] 9)).alloc (.cells #[.string t] 9)).drewN q = W at Z1 ⊢
  clear hst b0 q1 q2 q3 q4
  obtain ⟨c1, c2, _⟩ := Z1.cells
  have hnm : w.heap.size ≠ w.heap.size + 1 := by omega
  have hmn : w.heap.size + 1 ≠ w.heap.size := by omega
  go_wp2
  refine wp_region_noPanic ?_
  refine wp_region_held_drew (S := fun u => u.cell? ⟨w.heap.size, 0, none⟩ = some (.string s) ∧ u.cell? ⟨w.heap.size + 1, 0, none⟩ = some (.string t) ∧ Zr w u w.heap.size (w.heap.size + 1) s t) (by kernel_rfl) (⟨c1, c2, ⟨Z1.1, Z1.2.1, Z1.2.2.trans ⟨rfl, rfl, rfl, Nat.le_refl _, fun _ _ => rfl⟩⟩⟩) (fun hHeld => ?_)
  refine wpAnyH_take (i := 0) (oi := { dst := some 16, op := _, type := _, pos := _, after := _, guard := _ }) (v := ?_) rfl (by kernel_rfl) (by kernel_rfl) (by kernel_rfl) (fun _ _ _ h => h) (Or.inl ⟨by rfl, ?_⟩) (by assumption) ?_
  rotate_left 1
  · intro u hSw; obtain ⟨hSw1, hSw2, hSw3⟩ := hSw; go_simp; try with_reducible rfl
  try simp only [Act.put, List.setIfInBounds_toArray, List.set_cons_zero, List.set_cons_succ]
  refine wpAnyH_take (i := 2) (oi := { dst := some 18, op := _, type := _, pos := _, after := _, guard := _ }) (v := ?_) rfl (by kernel_rfl) (by kernel_rfl) (by kernel_rfl) (fun _ _ _ h => h) (Or.inl ⟨by rfl, ?_⟩) (by assumption) ?_
  rotate_left 1
  · intro u hSw; obtain ⟨hSw1, hSw2, hSw3⟩ := hSw; go_simp; try with_reducible rfl
  try simp only [Act.put, List.setIfInBounds_toArray, List.set_cons_zero, List.set_cons_succ]
  refine wpAnyH_ready (rs := [1]) (by kernel_rfl) (by simp) ?_
  refine AllReadyH.cons (o := { dst := some 17, op := _, type := _, pos := _, after := _, guard := _ }) rfl (fun K hK => ?_) AllReadyH.nil
  go_simp
  refine (clone_any s _ hz.1 (by omega)).mono ?_
  rintro e u1 ⟨rfl, g1⟩
  go_wp2_with fail
  refine hK.out _ _ ((hHeld.2.2.below g1).cells) (fun hHeld => ?_)
  clear hK K
  try simp only [Act.put, List.setIfInBounds_toArray, List.set_cons_zero, List.set_cons_succ]
  refine wpAnyH_ready (rs := [3]) (by kernel_rfl) (by simp) ?_
  refine AllReadyH.cons (o := { dst := some 19, op := _, type := _, pos := _, after := _, guard := _ }) rfl (fun K hK => ?_) AllReadyH.nil
  go_simp
  refine (clone_any t _ hzt.1 (by omega)).mono ?_
  rintro e u2 ⟨rfl, g2⟩
  go_wp2_with fail
  refine hK.out _ _ ((hHeld.2.2.below g2).cells) (fun hHeld => ?_)
  clear hK K
  try simp only [Act.put, List.setIfInBounds_toArray, List.set_cons_zero, List.set_cons_succ]
  have Z2 := hHeld.2.2
  have z1 := Z2.1.free
  have z2 := Z2.2.1.free
  obtain ⟨c3, c4, _⟩ := Z2.cells
  have Z3 := Z2.set1 hnm (Nat.le_refl _)
  have Z4 := Z3.set2 hnm (by omega)
  refine wpAnyH_ready (rs := [4]) (by kernel_rfl) (by simp) ?_
  refine AllReadyH.cons (o := { dst := none, op := _, type := _, pos := _, after := _, guard := _ }) rfl (fun K hK => ?_) AllReadyH.nil
  go_simp
  refine hK.out _ _ (Z3.cells) (fun hHeld => ?_)
  clear hK K
  try simp only [Act.put, List.setIfInBounds_toArray, List.set_cons_zero, List.set_cons_succ]
  refine wpAnyH_ready (rs := [5]) (by kernel_rfl) (by simp) ?_
  refine AllReadyH.cons (o := { dst := none, op := _, type := _, pos := _, after := _, guard := _ }) rfl (fun K hK => ?_) AllReadyH.nil
  go_simp
  refine hK.out _ _ (Z4.cells) (fun hHeld => ?_)
  clear hK K
  try simp only [Act.put, List.setIfInBounds_toArray, List.set_cons_zero, List.set_cons_succ]
  refine wpAnyH_done (by kernel_rfl) ?_ _
  refine NoPanic.normal ?_
  clear hHeld Z3 Z2 Z1 c1 c2 c3 c4 z1 z2
  generalize (u2.setCell ⟨w.heap.size, 0, none⟩ (.string s)).setCell ⟨w.heap.size + 1, 0, none⟩ (.string t) = V at Z4 ⊢
  obtain ⟨x3, y3, B3⟩ := Z4
  have xl := x3.lt
  have yl := y3.lt
  have h3 := h.same (B3.block d hlt)
  have o3 := own_below' ho B3
  have r3 : V.ownsRow B 83 1 sv k cs := row_same hrow fun j e => B3.block j (hjr j e)
  have hch := change_any h3 (.inr ⟨b, n, rfl, o3⟩) r3 (by omega) hk enter_ren (D' := (D.del (kl s)).put (kl t) (.held (.pointer (some a)))) (cb := #[.pointer (some ⟨w.heap.size, 0, none⟩), .pointer (some ⟨w.heap.size + 1, 0, none⟩)]) (fun U b' ho' hb' hF => by
    rw [own_dn ho] at ho'
    have xU : Box U w.heap.size (.string s) 9 := (hF.block _ xl (by omega)).trans x3
    have yU : Box U (w.heap.size + 1) (.string t) 9 := (hF.block _ yl (by omega)).trans y3
    exact renamed_any ho' (by unfold maxLen; omega) w.heap.size (w.heap.size + 1) s t hs ht xU.cell yU.cell (some a) hl (own_not_cells ho' xU) (own_not_cells ho' yU) xU.lt yU.lt)
  go_wp2_with fail
  refine hch.mono ?_
  rintro e w4 ⟨rfl, b', sv', hb', h4, o4, r4, v4, F4⟩
  obtain rfl : b' = b := by
    rcases hb' with e | ⟨e, _⟩
    · cases e; rfl
    · cases e
  have hout : ∀ j, w.heap.size ≤ j → ¬ (j = d ∨ some b' = some j ∨ sv.ownBlock = some j) := fun j hj => by
    rintro (e | e | e)
    · omega
    · cases e; omega
    · have := hjr _ e; omega
  have x4 : Box w4 w.heap.size (.string s) 9 := (F4.block _ xl (hout _ (by omega))).trans x3
  have y4 : Box w4 (w.heap.size + 1) (.string t) 9 := (F4.block _ yl (hout _ (by omega))).trans y3
  obtain ⟨k0, k1, k2, k3, k4, k5, k6⟩ := h4.cells
  have f3 := h4.free 3
  have S1 := hide2 (h4.set.2.2.2.1 (ops + 1))
  have hdb : d ≠ b' := own_not_cells ho h
  have keep : Hid (∀ j, j ≠ d → (w4.setCell ⟨d, 3, none⟩ (.int .i64 (ops + 1))).heap[j]? = w4.heap[j]?) := hide2 (fun j e => Below.heap_setCell _ _ _ _ (by simpa using e))
  have S5 := hide2 (((Fr.below (F := fun j => j = d ∨ j = b' ∨ sv.ownBlock = some j) (w := w) (w' := V) B3).trans F4 (fun j e => .inl (by
    rcases e with e | e | e
    · exact .inl e
    · cases e; exact .inr (.inl rfl)
    · exact .inr (.inr e)))).setCell (p := ⟨d, 3, none⟩) (.inl (.inl rfl)) (.int .i64 (ops + 1)))
  clear hch h3 o3 r3 F4 hout
  go_wp2
  go_ret
  refine ⟨w.heap.size, w.heap.size + 1, sv', rfl, Nat.le_refl _, by omega, (keep.out _ (by omega)).trans x4, (keep.out _ (by omega)).trans y4, S1.out, ?_, ?_, ?_, S5.out⟩
  · obtain ⟨es, clock, hh, rest⟩ := o4
    exact ⟨es, clock, (keep.out _ hdb.symm).trans hh, rest⟩
  · exact row_same r4 fun j e => keep.out j (h4.ne_row r4 (by decide) e)
  · rcases v4 with e | ⟨j, e, hl⟩
    · exact .inl e
    · exact .inr ⟨j, e, by have := B3.size; omega⟩
end Go.Proofs.Ytolaagbdnchhiaa
