/-
  A change of the directory: done, and kept.
-/
import Derived.Test.YtolaagbdnchhiaaDisk2
set_option linter.unusedVariables false
set_option linter.unusedSimpArgs false
namespace Go.Proofs.Ytolaagbdnchhiaa
open Go.RowKit Go.Maps

theorem Try.infoC : (Try.prog.info? 83).map (fun i => (i.zero, i.size, i.bytes)) = some (some .nilFunc, 1, 8) := by kernel_rfl

theorem row_succ {W : World} {base : Nat} {e : TypeId} {size : Nat} {v : Value} {k : Nat} {xs : List Value} (h : W.ownsRow base e size v (k + 1) xs) : ∃ g cap, v = .slice (some ⟨g, 0, none⟩) (k + 1) cap := by
  rcases h.2 with ⟨_, h0⟩ | ⟨g, cap, cur, rfl, _⟩
  · omega
  · exact ⟨g, cap, rfl⟩

theorem mapNil (m : Option Nat) (w : World) : (binOp .eql 58 (.map m) (.map none)).run Try.prog w = .ok (.bool m.isNone) w := by
  cases m <;> kernel_rfl

theorem grownBy_setCell {w w' : World} {g j : Nat} {u : Value} (h : w.grownBy w' (some g)) : w.grownBy (w'.setCell ⟨g, j, none⟩ u) (some g) :=
  ⟨h.os, h.tape, h.output, by simpa [World.setCell] using h.size, fun k hk hne => (Below.heap_setCell _ _ _ _ (by simpa using hne)).trans (h.block k hk hne)⟩

theorem row_block {w : World} {B : Nat} {e : TypeId} {v : Value} {k : Nat} {cs : List Value} (h : w.ownsRow B e 1 v k cs) {j : Nat} (hj : v.ownBlock = some j) : ∃ cur, w.heap[j]? = some (.cells cur e (0, 0)) ∧ B ≤ j ∧ j < w.heap.size := by
  rcases h.2 with ⟨rfl, _⟩ | ⟨g, cap, cur, rfl, hB, hh, _⟩
  · cases hj
  · cases hj
    exact ⟨cur, hh, hB, (Array.getElem?_eq_some_iff.1 hh).1⟩

set_option maxHeartbeats 2000000 in
set_option maxRecDepth 100000 in
theorem change_map {w : World} {d b n' B k g : Nat} {syn sv : Value} {ops cutAt : Int} {cuts gone : Bool} {D' : DataW Value} {cb : Array Value} {cs : List Value}
    (h : Dk w d (.map (some b)) syn sv ops cutAt cuts gone) (hrow : w.ownsRow B 83 1 sv k cs) (hB : B ≤ w.heap.size) (hk : k < 1000000) (hdb : d ≠ b) (hsb : sv.ownBlock ≠ some b)
    (eg : ∀ args w, (callFunc g args).run Try.prog w = .ok (.enter g args) w)
    (hcall : Calls Try.prog g (#[.map (some b)] ++ cb) w fun e w' => e = .returned (.tuple #[]) ∧ w'.ownsMap Try.prog 9 RV b n' D' ∧ w.grownBy w' (some b)) :
    Calls Try.prog 44 #[.pointer (some ⟨d, 0, none⟩), .func (.func g) #[] cb] w fun e w' => e = .returned (.tuple #[]) ∧
      ∃ sv', Dk w' d (.map (some b)) syn sv' ops cutAt cuts gone ∧ w'.ownsMap Try.prog 9 RV b n' D' ∧ w'.ownsRow B 83 1 sv' (k + 1) (cs ++ [.func (.func g) #[] cb]) ∧
        (sv'.ownBlock = sv.ownBlock ∨ ∃ j, sv'.ownBlock = some j ∧ w.heap.size ≤ j) ∧ Fr (fun j => j = d ∨ j = b ∨ sv.ownBlock = some j) w w' := by
  obtain ⟨i0, hi, hz0, hz1, hz2⟩ := info_parts Try.infoC
  have hlt := h.lt
  obtain ⟨c0, c1, c2, c3, c4, c5, c6⟩ := h.cells
  have hq := mapNil (some b) w
  have hsd : some d ≠ sv.ownBlock := fun e => by
    obtain ⟨cur, hh, _⟩ := row_block hrow e.symm
    unfold Dk at h
    rw [h] at hh
    simp at hh
  go_enter Try.func44, Try.ntmps44
  go_wp2_with fail
  refine hcall.mono ?_
  rintro e w1 ⟨rfl, ho1, hg1⟩
  have h1 : Dk w1 d (.map (some b)) syn sv ops cutAt cuts gone := h.same (hg1.block d hlt (by simpa using hdb))
  have hrow1 := hrow.kept hg1 (.inr hsb)
  have hs1 := hg1.size
  clear c0 c1 c2 c3 c4 c5 c6 hcall
  obtain ⟨c0, c1, c2, c3, c4, c5, c6⟩ := h1.cells
  have fr1 := h1.free 2
  go_wp2_with (first
    | (at_builtin
       refine wpList_append_own_at _ rfl _ _ 59 rfl B 83 i0 .nilFunc 1 8 Try.underlying59 hi hz0 hz1 hz2 rfl (by decide) _ _ _ rfl (hrow1.alloc _) ⟨w1.heap.size, 0, none⟩ 1 1 [.func (.func g) #[] cb] rfl rfl (cell_one_new _ _ _) (by simp [Value.oneCell']) (by unfold maxLen; omega) (by omega) (by simp; omega) ?_
       intro v' w2 hown' hgrow _ hblk
       obtain ⟨g', cap', rfl⟩ := row_succ hown'
       have h2 : Dk w2 d (.map (some b)) syn sv ops cutAt cuts gone := h1.same ((hgrow.block d (by simp; omega) hsd).trans (Below.heap_alloc _ _ d (by omega)))
       have k2 := h2.cells.2.2.1
       have f2 := h2.free 2
       go_frame)
    | go_in)
  go_end0
  have hgd : g' ≠ d := fun e => by
    obtain ⟨cur, hh, _⟩ := row_block hown' (j := g') rfl
    unfold Dk at h2
    rw [e, h2] at hh
    simp at hh
  have hset : w2.grownBy (w2.setCell ⟨d, 2, none⟩ (.slice (some ⟨g', 0, none⟩) (k + 1) cap')) (some d) := grownBy_setCell (World.grownBy.refl _ _)
  have F1 : Fr (fun j => j = d ∨ j = b ∨ sv.ownBlock = some j) w w1 := Fr.grown hg1 (fun j e => .inr (.inl (by cases e; rfl)))
  have F2 : Fr (fun j => j = d ∨ j = b ∨ sv.ownBlock = some j) w w2 := (F1.alloc _).trans (G := fun j => sv.ownBlock = some j) (Fr.grown hgrow (fun j e => e)) (fun j e => .inl (.inr (.inr e)))
  refine ⟨rfl, _, h2.set.2.2.1 _, ((ho1.alloc _).kept hgrow (fun e => hsb e.symm)).kept hset (by simpa using hdb.symm), hown'.kept hset (.inr (by simpa [Value.ownBlock] using hgd)), ?_, F2.setCell (.inl (.inl rfl)) _⟩
  rcases hblk with e | e
  · exact .inl e
  · exact .inr ⟨_, e, by simp; omega⟩

set_option maxHeartbeats 2000000 in
set_option maxRecDepth 100000 in
theorem change_nil {w : World} {d n' B k g : Nat} {syn sv : Value} {ops cutAt : Int} {cuts gone : Bool} {D' : DataW Value} {cb : Array Value} {cs : List Value}
    (h : Dk w d (.map none) syn sv ops cutAt cuts gone) (hrow : w.ownsRow B 83 1 sv k cs) (hB : B ≤ w.heap.size) (hk : k < 1000000)
    (eg : ∀ args w, (callFunc g args).run Try.prog w = .ok (.enter g args) w)
    (hcall : ∀ W : World, W.ownsMap Try.prog 9 RV w.heap.size 0 (.map []) → Fr (fun j => j = d) w W → Calls Try.prog g (#[.map (some w.heap.size)] ++ cb) W fun e w' => e = .returned (.tuple #[]) ∧ w'.ownsMap Try.prog 9 RV w.heap.size n' D' ∧ W.grownBy w' (some w.heap.size)) :
    Calls Try.prog 44 #[.pointer (some ⟨d, 0, none⟩), .func (.func g) #[] cb] w fun e w' => e = .returned (.tuple #[]) ∧
      ∃ sv', Dk w' d (.map (some w.heap.size)) syn sv' ops cutAt cuts gone ∧ w'.ownsMap Try.prog 9 RV w.heap.size n' D' ∧ w'.ownsRow B 83 1 sv' (k + 1) (cs ++ [.func (.func g) #[] cb]) ∧
        (sv'.ownBlock = sv.ownBlock ∨ ∃ j, sv'.ownBlock = some j ∧ w.heap.size < j) ∧ Fr (fun j => j = d ∨ sv.ownBlock = some j) w w' := by
  obtain ⟨i0, hi, hz0, hz1, hz2⟩ := info_parts Try.infoC
  have hlt := h.lt
  have hsd : some d ≠ sv.ownBlock := fun e => by
    obtain ⟨cur, hh, _⟩ := row_block hrow e.symm
    unfold Dk at h
    rw [h] at hh
    simp at hh
  have hsb : sv.ownBlock ≠ some w.heap.size := fun e => by
    obtain ⟨cur, hh, _, hl⟩ := row_block hrow e
    omega
  have hdb : d ≠ w.heap.size := by omega
  -- the world behind the making
  have hss : (w.setCell ⟨d, 0, none⟩ (.map (some w.heap.size))).heap.size = w.heap.size := by simp [World.setCell]
  have hm0 := World.ownsMap_made (w.setCell ⟨d, 0, none⟩ (.map (some w.heap.size))) Try.prog 9 RV
  rw [hss] at hm0
  have hD0 : Dk ((w.setCell ⟨d, 0, none⟩ (.map (some w.heap.size))).alloc (.map #[] 0)) d (.map (some w.heap.size)) syn sv ops cutAt cuts gone := (h.set.1 _).same (Below.heap_alloc _ _ d (by omega))
  have hgA : w.grownBy (w.setCell ⟨d, 0, none⟩ (.map (some w.heap.size))) (some d) := grownBy_setCell (World.grownBy.refl _ _)
  have hF0 : Fr (fun j => j = d) w ((w.setCell ⟨d, 0, none⟩ (.map (some w.heap.size))).alloc (.map #[] 0)) := ((Fr.refl (fun j => j = d) w).setCell (.inl rfl) _).alloc _
  have hcall0 := hcall _ hm0 hF0
  have hr0 := (hrow.kept hgA (.inr fun e => hsd e.symm)).alloc (.map #[] 0)
  have hsz0 : ((w.setCell ⟨d, 0, none⟩ (.map (some w.heap.size))).alloc (.map #[] 0)).heap.size = w.heap.size + 1 := by simp [hss]
  have hfA := h.free 0
  obtain ⟨W, hW⟩ : ∃ W, W = (w.setCell ⟨d, 0, none⟩ (.map (some w.heap.size))).alloc (.map #[] 0) := ⟨_, rfl⟩
  rw [← hW] at hD0 hcall0 hF0 hr0 hsz0
  have HW := hide2 hW
  clear hW
  obtain ⟨c0, c1, c2, c3, c4, c5, c6⟩ := h.cells
  obtain ⟨a0, a1, a2, a3, a4, a5, a6⟩ := hD0.cells
  have hq := mapNil none w
  have hmm := @run_makeMap Try.prog
  clear hcall hm0 hgA hss
  go_enter Try.func44, Try.ntmps44
  go_wp2_with fail
  rw [← HW.out]
  refine hcall0.mono ?_
  rintro e w1 ⟨rfl, ho1, hg1⟩
  clear hcall0 HW c0 c1 c2 c3 c4 c5 c6 a0 a1 a2 a3 a4 a5 a6 hq hmm hfA
  have h1 : Dk w1 d (.map (some w.heap.size)) syn sv ops cutAt cuts gone := hD0.same (hg1.block d (by omega) (by simpa using hdb))
  have hrow1 := hr0.kept hg1 (.inr hsb)
  have hs1 := hg1.size
  obtain ⟨c0, c1, c2, c3, c4, c5, c6⟩ := h1.cells
  have fr1 := h1.free 2
  go_wp2_with (first
    | (at_builtin
       refine wpList_append_own_at _ rfl _ _ 59 rfl B 83 i0 .nilFunc 1 8 Try.underlying59 hi hz0 hz1 hz2 rfl (by decide) _ _ _ rfl (hrow1.alloc _) ⟨w1.heap.size, 0, none⟩ 1 1 [.func (.func g) #[] cb] rfl rfl (cell_one_new _ _ _) (by simp [Value.oneCell']) (by unfold maxLen; omega) (by omega) (by simp; omega) ?_
       intro v' w2 hown' hgrow _ hblk
       obtain ⟨g', cap', rfl⟩ := row_succ hown'
       have h2 : Dk w2 d (.map (some w.heap.size)) syn sv ops cutAt cuts gone := h1.same ((hgrow.block d (by simp; omega) hsd).trans (Below.heap_alloc _ _ d (by omega)))
       have k2 := h2.cells.2.2.1
       have f2 := h2.free 2
       go_frame)
    | go_in)
  go_end0
  have hgd : g' ≠ d := fun e => by
    obtain ⟨cur, hh, _⟩ := row_block hown' (j := g') rfl
    unfold Dk at h2
    rw [e, h2] at hh
    simp at hh
  have hset : w2.grownBy (w2.setCell ⟨d, 2, none⟩ (.slice (some ⟨g', 0, none⟩) (k + 1) cap')) (some d) := grownBy_setCell (World.grownBy.refl _ _)
  have F0 : Fr (fun j => j = d ∨ sv.ownBlock = some j) w W := hF0.mono (fun j _ e => .inl e)
  have F1 : Fr (fun j => j = d ∨ sv.ownBlock = some j) w w1 := F0.trans (G := fun j => j = w.heap.size) (Fr.grown hg1 (fun j e => by cases e; rfl)) (fun j e => .inr (by omega))
  have F2 : Fr (fun j => j = d ∨ sv.ownBlock = some j) w w2 := (F1.alloc _).trans (G := fun j => sv.ownBlock = some j) (Fr.grown hgrow (fun j e => e)) (fun j e => .inl (.inr e))
  refine ⟨rfl, _, h2.set.2.2.1 _, ((ho1.alloc _).kept hgrow (fun e => hsb e.symm)).kept hset (by simpa using hdb.symm), hown'.kept hset (.inr (by simpa [Value.ownBlock] using hgd)), ?_, F2.setCell (.inl (.inl rfl)) _⟩
  rcases hblk with e | e
  · exact .inl e
  · exact .inr ⟨_, e, by simp; omega⟩
end Go.Proofs.Ytolaagbdnchhiaa
