/-
  Delete, Rename, SyncDir.
-/
import Derived.Test.YtolaagbdnchhiaaOps1
import Derived.Test.YtolaagbdnchhiaaDisk9
import Derived.Test.YtolaagbdnchhiaaDisk8
set_option linter.unusedVariables false
set_option linter.unusedSimpArgs false
namespace Go.Proofs.Ytolaagbdnchhiaa
open Go.RowKit Go.Maps

theorem enter_del : ∀ args w, (callFunc 45 args).run Try.prog w = .ok (.enter 45 args) w := enters_of Try.func45 (by kernel_rfl) rfl
theorem enter_ren : ∀ args w, (callFunc 61 args).run Try.prog w = .ok (.enter 61 args) w := enters_of Try.func61 (by kernel_rfl) rfl

theorem own_below' {w w' : World} {b n : Nat} {D : DataW Value} (h : w.ownsMap Try.prog 9 RV b n D) (hb : Below w.heap.size w w') : w'.ownsMap Try.prog 9 RV b n D :=
  h.kept (row := none) ⟨hb.os, hb.tape, hb.output, hb.size, fun j hj _ => hb.block j hj⟩ (by simp)

set_option maxHeartbeats 1000000 in
theorem delete_err {w : World} {d : Nat} {mb : Option Nat} {syn since : Value} {ops cutAt : Int} {cuts gone : Bool} {D : DataW Value} (h : Dk w d (.map mb) syn since ops cutAt cuts gone) (hon : On ops cutAt cuts gone) (hd : Dir w mb D)
    (s : ByteArray) (hs : s.size ≤ maxLen) (p : Option Addr) (hl : Leads D s p) (x : Int) (hx : x = code (isName s) p ops) (hne : x ≠ 0) :
    Calls Try.prog 17 #[.pointer (some ⟨d, 0, none⟩), .string s] w fun e w' => e = .returned (.int .i64 x) ∧ Below w.heap.size w w' := by
  have b0 : Below w.heap.size w (w.alloc (.cells #[.string s] 9)) := (Below.refl _ _).alloc (Nat.le_refl _) _
  have hjm : ∀ j, mb = some j → j < w.heap.size := fun j e => by
    rcases hd with ⟨rfl, _⟩ | ⟨b, n, rfl, ho⟩
    · cases e
    · cases e; exact ho.lt
  have hst := startOn_on0 (h.same (b0.block d h.lt)) hon (Dir.same hd fun j e => b0.block j (hjm j e)) s hs p hl
  rw [← hx] at hst
  clear hx
  go_enter Try.func17, Try.ntmps17
  go_wp2_with fail
  refine hst.mono ?_
  rintro e w' ⟨rfl, q, rfl⟩
  go_wp2
  go_ret
  exact ⟨rfl, b0.trans ⟨rfl, rfl, rfl, Nat.le_refl _, fun _ _ => rfl⟩⟩

set_option maxHeartbeats 4000000 in
set_option maxRecDepth 100000 in
theorem delete_ok {w : World} {d B k b n : Nat} {syn sv : Value} {ops cutAt : Int} {cuts gone : Bool} {D : DataW Value} {cs : List Value}
    (h : Dk w d (.map (some b)) syn sv ops cutAt cuts gone) (hon : On ops cutAt cuts gone) (ho : w.ownsMap Try.prog 9 RV b n D) (hrow : w.ownsRow B 83 1 sv k cs) (hB : B ≤ w.heap.size) (hk : k < 1000000) (hD : Maps.size D < 1000000) (ho0 : 0 ≤ ops) (hops : ops < 65536)
    (s : ByteArray) (hn : isName s = true) (a : Addr) (hl : Leads D s (some a)) :
    Calls Try.prog 17 #[.pointer (some ⟨d, 0, none⟩), .string s] w fun e w' =>
      ∃ nb b' sv', e = .returned (.int .i64 0) ∧ w.heap.size ≤ nb ∧ Box w' nb (.string s) 9 ∧ b' = b ∧ Dk w' d (.map (some b)) syn sv' (ops + 1) cutAt cuts gone ∧ w'.ownsMap Try.prog 9 RV b (Maps.size D + 1) (D.del (kl s)) ∧
        w'.ownsRow B 83 1 sv' (k + 1) (cs ++ [dlCl nb]) ∧ (sv'.ownBlock = sv.ownBlock ∨ ∃ j, sv'.ownBlock = some j ∧ w.heap.size ≤ j) ∧ Fr (fun j => j = d ∨ j = b ∨ sv.ownBlock = some j) w w' := by
  have hlt := h.lt
  have hz := isName_size hn
  have hs : s.size ≤ maxLen := by unfold maxLen; omega
  have hb := ho.lt
  have b0 : Below w.heap.size w (w.alloc (.cells #[.string s] 9)) := (Below.refl _ _).alloc (Nat.le_refl _) _
  have hst := startOn_on0 (h.same (b0.block d hlt)) hon (.inr ⟨b, n, rfl, own_below' ho b0⟩) s hs _ hl
  rw [hn, code_ok hops] at hst
  have x0 : Box (w.alloc (.cells #[.string s] 9)) w.heap.size (.string s) 9 := heap_alloc_new w _
  have hjr : ∀ j, sv.ownBlock = some j → j < w.heap.size := fun j e => by
    obtain ⟨_, _, _, hl⟩ := row_block hrow e
    exact hl
  go_enter Try.func17, Try.ntmps17
  go_wp2_with fail
  refine hst.mono ?_
  rintro e w' ⟨rfl, q, rfl⟩
  have b1 : Below w.heap.size w ((w.alloc (.cells #[.string s] 9)).drewN q) := b0.trans ⟨rfl, rfl, rfl, Nat.le_refl _, fun _ _ => rfl⟩
  have x1 : Box ((w.alloc (.cells #[.string s] 9)).drewN q) w.heap.size (.string s) 9 := x0
  generalize (w.alloc (.cells #[.string s] 9)).drewN q = W at b1 x1 ⊢
  clear hst b0 x0
  have c1 := x1.cell
  have xl := x1.lt
  go_wp2_with fail
  refine (clone_any s _ hz.1 (by omega)).mono ?_
  rintro e w2 ⟨rfl, b2⟩
  have x2 : Box w2 w.heap.size (.string s) 9 := (b2.block _ xl).trans x1
  have B2 : Below w.heap.size w w2 := b1.trans (b2.mono b1.size)
  have s2 := b2.size
  have z2 := x2.free
  have c2 := x2.cell
  have x3 := x2.set (.string s)
  have B3 : Below w.heap.size w (w2.setCell ⟨w.heap.size, 0, none⟩ (.string s)) := B2.setCell (Nat.le_refl _) _
  have s3 : (w2.setCell ⟨w.heap.size, 0, none⟩ (.string s)).heap.size = w2.heap.size := by simp [World.setCell]
  obtain ⟨V, hV⟩ : ∃ V, V = w2.setCell ⟨w.heap.size, 0, none⟩ (.string s) := ⟨_, rfl⟩
  rw [← hV] at x3 B3 s3
  have h3 := h.same (B3.block d hlt)
  have o3 := own_below' ho B3
  have r3 : V.ownsRow B 83 1 sv k cs := row_same hrow fun j e => B3.block j (hjr j e)
  have hch := change_any h3 (.inr ⟨b, n, rfl, o3⟩) r3 (by omega) hk enter_del (D' := D.del (kl s)) (cb := #[.pointer (some ⟨w.heap.size, 0, none⟩)]) (fun U b' ho' hb' hF => by
    rw [own_dn ho] at ho'
    refine (deleted_any ho' w.heap.size s hs ((hF.cell (p := ⟨w.heap.size, 0, none⟩) x3.lt (by simp; omega)).trans x3.cell)).mono ?_
    rintro e w' ⟨rfl, a1, a2⟩
    exact ⟨rfl, a1.mono (by omega), a2⟩)
  have HV := hide2 hV
  clear hV b1 b2 B2 x1 c1
  go_wp2_with fail
  rw [← HV.out]
  refine hch.mono ?_
  rintro e w4 ⟨rfl, b', sv', hb', h4, o4, r4, v4, F4⟩
  obtain rfl : b' = b := by
    rcases hb' with e | ⟨e, _⟩
    · cases e; rfl
    · cases e
  have x4 : Box w4 w.heap.size (.string s) 9 := (F4.block _ x3.lt (by
    rintro (e | e | e)
    · omega
    · cases e; omega
    · have := hjr _ e; omega)).trans x3
  obtain ⟨k0, k1, k2, k3, k4, k5, k6⟩ := h4.cells
  have y3 := h4.free 3
  have S1 := hide2 (h4.set.2.2.2.1 (ops + 1))
  have hdb : d ≠ b' := own_not_cells ho h
  have keep : Hid (∀ j, j ≠ d → (w4.setCell ⟨d, 3, none⟩ (.int .i64 (ops + 1))).heap[j]? = w4.heap[j]?) := hide2 (fun j e => Below.heap_setCell _ _ _ _ (by simpa using e))
  have S5 := hide2 (((Fr.below (F := fun j => j = d ∨ j = b' ∨ sv.ownBlock = some j) (w := w) (w' := V) B3).trans F4 (fun j e => .inl (by
    rcases e with e | e | e
    · exact .inl e
    · cases e; exact .inr (.inl rfl)
    · exact .inr (.inr e)))).setCell (p := ⟨d, 3, none⟩) (.inl (.inl rfl)) (.int .i64 (ops + 1)))
  clear hch HV h3 o3 r3 F4
  go_wp2
  go_ret
  refine ⟨w.heap.size, b', sv', rfl, Nat.le_refl _, (keep.out _ (by omega)).trans x4, rfl, S1.out, ?_, ?_, ?_, S5.out⟩
  · obtain ⟨es, clock, hh, rest⟩ := o4
    exact ⟨es, clock, (keep.out _ hdb.symm).trans hh, rest⟩
  · exact row_same r4 fun j e => keep.out j (h4.ne_row r4 (by decide) e)
  · rcases v4 with e | ⟨j, e, hl⟩
    · exact .inl e
    · exact .inr ⟨j, e, by have := B3.size; omega⟩
end Go.Proofs.Ytolaagbdnchhiaa
