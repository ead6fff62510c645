/-
  A text's copy; the closures that change a directory; how a change is done and kept.
-/
import Derived.Test.YthfcjfhaoabdeaaGreatDoorRz40
import Derived.Test.YthfcjfhaoabdeaaGreatDoorRz9
import Derived.Lib.UnsafeStr
import Derived.Lib.BufferWrite
import Derived.Laws.MakeOwn
import Derived.Maps.AppendAt
set_option linter.unusedVariables false
set_option linter.unusedSimpArgs false
namespace Go.Proofs.YthfcjfhaoabdeaaGreatDoor
open Go.RowKit Go.Maps

theorem Tryz.info5 : (Tryz.prog.info? 5).map (fun i => (i.zero, i.size, i.bytes)) = some (some (.int .u8 0), 1, 1) := by kernel_rfl

set_option maxRecDepth 100000 in
set_option maxHeartbeats 4000000 in
theorem strClone_any (s : ByteArray) (w : World) (h1 : 1 ≤ s.size) (hlim : s.size ≤ 281474976710656) :
    Calls Tryz.prog 257 #[.string s] w fun e w' => e = .returned (.string s) ∧ Below w.heap.size w w' := by
  obtain ⟨i0, hi, hz0, hz1, hz2⟩ := info_parts Tryz.info5
  have hinfo : (Tryz.prog.info? 5).map (·.size) = some 1 := by rw [hi]; simp [hz1]
  have hco : Tryz.prog.cellsOf 5 = 1 := by simp [Program.cellsOf, hi, hz1]
  obtain ⟨M, hM⟩ : ∃ M, M = madeCells (Value.int .u8 0).cells (((s.size : Nat) : Int).toNat * i0.size) := ⟨_, rfl⟩
  have hMs : M.size = s.size := by rw [hM, size_madeCells, hz1]; simp
  have hmk : ∀ W : World, (Instr.makeSlice 82 (.int .i64 (s.size : Int)) (.int .i64 (s.size : Int))).run Tryz.prog W = .ok (.slice (some ⟨W.heap.size, 0, none⟩) s.size s.size) (W.alloc (.cells M 5)) := fun W => by
    have h := run_make (P := Tryz.prog) W 82 5 i0 (.int .u8 0) Tryz.underlying82 hi hz0 .i64 .i64 (s.size : Int) (s.size : Int) (by omega) (by omega) (by rw [hz2]; omega) (by omega)
    rw [← hM] at h
    simpa using h
  clear hM
  have hcp := Lib.run_copy_row_string (P := Tryz.prog) (w.alloc (.cells M 5)) 82 9 3 5 w.heap.size 0 s.size s.size s M 5 Tryz.underlying82 hinfo (heap_alloc_new w _) (Nat.le_refl _) (by omega)
  obtain ⟨Y, hY⟩ : ∃ Y, Y = (M.toList.take 0 ++ Lib.byteCells s.data.toList ++ M.toList.drop (0 + s.size)).toArray := ⟨_, rfl⟩
  rw [← hY] at hcp
  have hYl : Y.toList = Lib.byteCells s.data.toList := by
    rw [hY, List.toList_toArray, List.take_zero, List.nil_append, List.drop_of_length_le (by rw [Array.length_toList]; omega), List.append_nil]
  have hYs : Y.size = s.size := by rw [← Array.length_toList, hYl, Lib.byteCells_length, ← Lib.size_eq]
  have hgY : ((w.alloc (.cells M 5)).setRow w.heap.size Y).heap[w.heap.size]? = some (.cells Y 5 (0, 0)) := setRow_heap _ _ M _ 5 (0, 0) (heap_alloc_new w _)
  have hne : s.data.toList ≠ [] := fun e => by have h0 : s.size = 0 := (by rw [Lib.size_eq, e]; rfl); omega
  have hUS := Lib.run_unsafeString_row (P := Tryz.prog) ((w.alloc (.cells M 5)).setRow w.heap.size Y) 366 3 9 5 Tryz.underlying366 hco w.heap.size Y.size (by unfold World.shape?; rw [hgY]) s.data.toList hne (by rw [← Lib.size_eq]; omega) (by rw [← Lib.size_eq]; omega)
    (fun j x hx => Lib.cells_of_row hgY Y.size j _ (by rw [List.take_of_length_le (by rw [Array.length_toList]; exact Nat.le_refl _), hYl]; simp [Lib.byteCells, hx]))
  rw [← Lib.size_eq] at hUS
  clear hY
  have h0 : ¬ s.size = 0 := by omega
  go_enter Tryz.func257, Tryz.ntmps257
  go_wp2
  go_ret
  have hb1 : Below w.heap.size w (w.alloc (.cells M 5)) := (Below.refl _ w).alloc (Nat.le_refl _) _
  have hb2 : Below w.heap.size (w.alloc (.cells M 5)) ((w.alloc (.cells M 5)).setRow w.heap.size Y) := ⟨rfl, rfl, rfl, by simp, fun k hk => setRow_other _ _ _ _ (by omega)⟩
  exact ⟨rfl, Lib.below_freeze (hb1.trans hb2) (p := ⟨w.heap.size, 0, none⟩) (Nat.le_refl _) _⟩

theorem clone_any (s : ByteArray) (w : World) (h1 : 1 ≤ s.size) (hlim : s.size ≤ 281474976710656) :
    Calls Tryz.prog 259 #[.string s] w fun e w' => e = .returned (.string s) ∧ Below w.heap.size w w' := by
  go_enter Tryz.func259, Tryz.ntmps259
  go_wp2_with fail
  refine (strClone_any s w h1 hlim).mono ?_
  rintro e w' ⟨rfl, hb⟩
  go_wp2
  go_ret
  exact ⟨rfl, hb⟩

/-- Outside F, all that was there is as it was. -/
structure Fr (F : Nat → Prop) (w w' : World) : Prop where
  os : w'.os = w.os
  tape : w'.tape = w.tape
  output : w'.output = w.output
  size : w.heap.size ≤ w'.heap.size
  block : ∀ k, k < w.heap.size → ¬ F k → w'.heap[k]? = w.heap[k]?

section
variable {F G : Nat → Prop} {a b c w w' : World}
theorem Fr.refl (F : Nat → Prop) (w : World) : Fr F w w := ⟨rfl, rfl, rfl, Nat.le_refl _, fun _ _ _ => rfl⟩
theorem Fr.trans (h : Fr F a b) (k : Fr G b c) (hG : ∀ j, G j → F j ∨ a.heap.size ≤ j) : Fr F a c :=
  ⟨k.os.trans h.os, k.tape.trans h.tape, k.output.trans h.output, Nat.le_trans h.size k.size, fun j hj hF => by
    refine (k.block j (Nat.lt_of_lt_of_le hj h.size) fun hg => ?_).trans (h.block j hj hF)
    rcases hG j hg with h1 | h1
    · exact hF h1
    · omega⟩
theorem Fr.mono (h : Fr F a b) (hG : ∀ j, j < a.heap.size → F j → G j) : Fr G a b := ⟨h.os, h.tape, h.output, h.size, fun j hj hn => h.block j hj fun hf => hn (hG j hj hf)⟩
theorem Fr.below (h : Below w.heap.size w w') : Fr F w w' := ⟨h.os, h.tape, h.output, h.size, fun k hk _ => h.block k hk⟩
theorem Fr.grown {row : Option Nat} (h : w.grownBy w' row) (hr : ∀ j, row = some j → F j) : Fr F w w' :=
  ⟨h.os, h.tape, h.output, h.size, fun k hk hF => h.block k hk fun e => hF (hr k e.symm)⟩
theorem Fr.setCell (h : Fr F a w) {p : Addr} (hp : F p.block ∨ a.heap.size ≤ p.block) (v : Value) : Fr F a (w.setCell p v) :=
  ⟨h.os, h.tape, h.output, by simpa [World.setCell] using h.size, fun k hk hF => (Below.heap_setCell _ _ _ _ (by
    intro e
    rcases hp with hp | hp
    · exact hF (e ▸ hp)
    · omega)).trans (h.block k hk hF)⟩
theorem Fr.alloc (h : Fr F a w) (o : Obj) : Fr F a (w.alloc o) := h.trans (G := fun _ => False) (Fr.below ((Below.refl _ _).alloc (Nat.le_refl _) _)) (fun _ h => h.elim)
theorem Fr.drewN (h : Fr F a w) (q : Nat) : Fr F a (w.drewN q) := ⟨h.os, h.tape, h.output, h.size, h.block⟩
theorem Fr.to {n : Nat} (h : Fr F w w') (hF : ∀ k, k < n → ¬ F k) (hn : n ≤ w.heap.size) : Below n w w' := ⟨h.os, h.tape, h.output, h.size, fun k hk => h.block k (Nat.lt_of_lt_of_le hk hn) (hF k hk)⟩
theorem Fr.cell (h : Fr F w w') {p : Addr} (hp : p.block < w.heap.size) (hF : ¬ F p.block) : w'.cell? p = w.cell? p := World.cell?_of_block (h.block _ hp hF)
end

theorem Dir.same {w w' : World} {mb : Option Nat} {D : DataW Value} (h : Dir w mb D) (e : ∀ b, mb = some b → w'.heap[b]? = w.heap[b]?) : Dir w' mb D := by
  rcases h with h | ⟨b, n, rfl, es, clock, hb, F, hs, hD⟩
  · exact .inl h
  · exact .inr ⟨b, n, rfl, es, clock, (e b rfl).trans hb, F, hs, hD⟩

set_option maxHeartbeats 400000 in
/-- What is done for a file that is made. -/
theorem made_any {w : World} {b n : Nat} {D : DataW Value} (ho : w.ownsMap Tryz.prog 9 RV b n D) (hn : n < maxLen) (fb nb : Nat) (s : ByteArray) (p : Option Addr) (hs : s.size ≤ maxLen)
    (hf : w.cell? ⟨fb, 0, none⟩ = some (.pointer p)) (hc : w.cell? ⟨nb, 0, none⟩ = some (.string s)) :
    Calls Tryz.prog 261 (#[.map (some b)] ++ #[.pointer (some ⟨fb, 0, none⟩), .pointer (some ⟨nb, 0, none⟩)]) w fun e w' => e = .returned (.tuple #[]) ∧
      w'.ownsMap Tryz.prog 9 RV b (n + 1) (D.put (.string s.data.toList) (.held (.pointer p))) ∧ w.grownBy w' (some b) := by
  obtain ⟨w1, hrun, ho1, hg1⟩ := ho.update dirKeyed Tryz.underlying74 hn (key_str s hs) (val := .pointer p) rfl
  go_enter Tryz.func261, Tryz.ntmps261
  go_wp2
  go_end0
  exact ⟨rfl, ho1, hg1⟩

end Go.Proofs.YthfcjfhaoabdeaaGreatDoor

/-
  A change of the directory: done, and kept.
-/
set_option linter.unusedVariables false
set_option linter.unusedSimpArgs false
namespace Go.Proofs.YthfcjfhaoabdeaaGreatDoor
open Go.RowKit Go.Maps

theorem Tryz.infoC : (Tryz.prog.info? 370).map (fun i => (i.zero, i.size, i.bytes)) = some (some .nilFunc, 1, 8) := by kernel_rfl

theorem row_succ {W : World} {base : Nat} {e : TypeId} {size : Nat} {v : Value} {k : Nat} {xs : List Value} (h : W.ownsRow base e size v (k + 1) xs) : ∃ g cap, v = .slice (some ⟨g, 0, none⟩) (k + 1) cap := by
  rcases h.2 with ⟨_, h0⟩ | ⟨g, cap, cur, rfl, _⟩
  · omega
  · exact ⟨g, cap, rfl⟩

theorem mapNil (m : Option Nat) (w : World) : (binOp .eql 74 (.map m) (.map none)).run Tryz.prog w = .ok (.bool m.isNone) w := by
  cases m <;> kernel_rfl

theorem grownBy_setCell {w w' : World} {g j : Nat} {u : Value} (h : w.grownBy w' (some g)) : w.grownBy (w'.setCell ⟨g, j, none⟩ u) (some g) :=
  ⟨h.os, h.tape, h.output, by simpa [World.setCell] using h.size, fun k hk hne => (Below.heap_setCell _ _ _ _ (by simpa using hne)).trans (h.block k hk hne)⟩

theorem row_block {w : World} {B : Nat} {e : TypeId} {v : Value} {k : Nat} {cs : List Value} (h : w.ownsRow B e 1 v k cs) {j : Nat} (hj : v.ownBlock = some j) : ∃ cur, w.heap[j]? = some (.cells cur e (0, 0)) ∧ B ≤ j ∧ j < w.heap.size := by
  rcases h.2 with ⟨rfl, _⟩ | ⟨g, cap, cur, rfl, hB, hh, _⟩
  · cases hj
  · cases hj
    exact ⟨cur, hh, hB, (Array.getElem?_eq_some_iff.1 hh).1⟩

set_option maxHeartbeats 2000000 in
set_option maxRecDepth 100000 in
theorem change_map {w : World} {d b n' B k g : Nat} {syn sv : Value} {ops cutAt : Int} {cuts gone : Bool} {D' : DataW Value} {cb : Array Value} {cs : List Value}
    (h : Dk w d (.map (some b)) syn sv ops cutAt cuts gone) (hrow : w.ownsRow B 370 1 sv k cs) (hB : B ≤ w.heap.size) (hk : k < 1000000) (hdb : d ≠ b) (hsb : sv.ownBlock ≠ some b)
    (eg : ∀ args w, (callFunc g args).run Tryz.prog w = .ok (.enter g args) w)
    (hcall : Calls Tryz.prog g (#[.map (some b)] ++ cb) w fun e w' => e = .returned (.tuple #[]) ∧ w'.ownsMap Tryz.prog 9 RV b n' D' ∧ w.grownBy w' (some b)) :
    Calls Tryz.prog 260 #[.pointer (some ⟨d, 0, none⟩), .func (.func g) #[] cb] w fun e w' => e = .returned (.tuple #[]) ∧
      ∃ sv', Dk w' d (.map (some b)) syn sv' ops cutAt cuts gone ∧ w'.ownsMap Tryz.prog 9 RV b n' D' ∧ w'.ownsRow B 370 1 sv' (k + 1) (cs ++ [.func (.func g) #[] cb]) ∧
        (sv'.ownBlock = sv.ownBlock ∨ ∃ j, sv'.ownBlock = some j ∧ w.heap.size ≤ j) ∧ Fr (fun j => j = d ∨ j = b ∨ sv.ownBlock = some j) w w' := by
  obtain ⟨i0, hi, hz0, hz1, hz2⟩ := info_parts Tryz.infoC
  have hlt := h.lt
  obtain ⟨c0, c1, c2, c3, c4, c5, c6⟩ := h.cells
  have hq := mapNil (some b) w
  have hsd : some d ≠ sv.ownBlock := fun e => by
    obtain ⟨cur, hh, _⟩ := row_block hrow e.symm
    unfold Dk at h
    rw [h] at hh
    simp at hh
  go_enter Tryz.func260, Tryz.ntmps260
  go_wp2_with fail
  refine hcall.mono ?_
  rintro e w1 ⟨rfl, ho1, hg1⟩
  have h1 : Dk w1 d (.map (some b)) syn sv ops cutAt cuts gone := h.same (hg1.block d hlt (by simpa using hdb))
  have hrow1 := hrow.kept hg1 (.inr hsb)
  have hs1 := hg1.size
  clear c0 c1 c2 c3 c4 c5 c6 hcall
  obtain ⟨c0, c1, c2, c3, c4, c5, c6⟩ := h1.cells
  have fr1 := h1.free 2
  go_wp2_with (first
    | (at_builtin
       refine wpList_append_own_at _ rfl _ _ 75 rfl B 370 i0 .nilFunc 1 8 Tryz.underlying75 hi hz0 hz1 hz2 rfl (by decide) _ _ _ rfl (hrow1.alloc _) ⟨w1.heap.size, 0, none⟩ 1 1 [.func (.func g) #[] cb] rfl rfl (cell_one_new _ _ _) (by simp [Value.oneCell']) (by unfold maxLen; omega) (by omega) (by simp; omega) ?_
       intro v' w2 hown' hgrow _ hblk
       obtain ⟨g', cap', rfl⟩ := row_succ hown'
       have h2 : Dk w2 d (.map (some b)) syn sv ops cutAt cuts gone := h1.same ((hgrow.block d (by simp; omega) hsd).trans (Below.heap_alloc _ _ d (by omega)))
       have k2 := h2.cells.2.2.1
       have f2 := h2.free 2
       go_frame)
    | go_in)
  go_end0
  have hgd : g' ≠ d := fun e => by
    obtain ⟨cur, hh, _⟩ := row_block hown' (j := g') rfl
    unfold Dk at h2
    rw [e, h2] at hh
    simp at hh
  have hset : w2.grownBy (w2.setCell ⟨d, 2, none⟩ (.slice (some ⟨g', 0, none⟩) (k + 1) cap')) (some d) := grownBy_setCell (World.grownBy.refl _ _)
  have F1 : Fr (fun j => j = d ∨ j = b ∨ sv.ownBlock = some j) w w1 := Fr.grown hg1 (fun j e => .inr (.inl (by cases e; rfl)))
  have F2 : Fr (fun j => j = d ∨ j = b ∨ sv.ownBlock = some j) w w2 := (F1.alloc _).trans (G := fun j => sv.ownBlock = some j) (Fr.grown hgrow (fun j e => e)) (fun j e => .inl (.inr (.inr e)))
  refine ⟨rfl, _, h2.set.2.2.1 _, ((ho1.alloc _).kept hgrow (fun e => hsb e.symm)).kept hset (by simpa using hdb.symm), hown'.kept hset (.inr (by simpa [Value.ownBlock] using hgd)), ?_, F2.setCell (.inl (.inl rfl)) _⟩
  rcases hblk with e | e
  · exact .inl e
  · exact .inr ⟨_, e, by simp; omega⟩

set_option maxHeartbeats 2000000 in
set_option maxRecDepth 100000 in
theorem change_nil {w : World} {d n' B k g : Nat} {syn sv : Value} {ops cutAt : Int} {cuts gone : Bool} {D' : DataW Value} {cb : Array Value} {cs : List Value}
    (h : Dk w d (.map none) syn sv ops cutAt cuts gone) (hrow : w.ownsRow B 370 1 sv k cs) (hB : B ≤ w.heap.size) (hk : k < 1000000)
    (eg : ∀ args w, (callFunc g args).run Tryz.prog w = .ok (.enter g args) w)
    (hcall : ∀ W : World, W.ownsMap Tryz.prog 9 RV w.heap.size 0 (.map []) → Fr (fun j => j = d) w W → Calls Tryz.prog g (#[.map (some w.heap.size)] ++ cb) W fun e w' => e = .returned (.tuple #[]) ∧ w'.ownsMap Tryz.prog 9 RV w.heap.size n' D' ∧ W.grownBy w' (some w.heap.size)) :
    Calls Tryz.prog 260 #[.pointer (some ⟨d, 0, none⟩), .func (.func g) #[] cb] w fun e w' => e = .returned (.tuple #[]) ∧
      ∃ sv', Dk w' d (.map (some w.heap.size)) syn sv' ops cutAt cuts gone ∧ w'.ownsMap Tryz.prog 9 RV w.heap.size n' D' ∧ w'.ownsRow B 370 1 sv' (k + 1) (cs ++ [.func (.func g) #[] cb]) ∧
        (sv'.ownBlock = sv.ownBlock ∨ ∃ j, sv'.ownBlock = some j ∧ w.heap.size < j) ∧ Fr (fun j => j = d ∨ sv.ownBlock = some j) w w' := by
  obtain ⟨i0, hi, hz0, hz1, hz2⟩ := info_parts Tryz.infoC
  have hlt := h.lt
  have hsd : some d ≠ sv.ownBlock := fun e => by
    obtain ⟨cur, hh, _⟩ := row_block hrow e.symm
    unfold Dk at h
    rw [h] at hh
    simp at hh
  have hsb : sv.ownBlock ≠ some w.heap.size := fun e => by
    obtain ⟨cur, hh, _, hl⟩ := row_block hrow e
    omega
  have hdb : d ≠ w.heap.size := by omega
  -- the world behind the making
  have hss : (w.setCell ⟨d, 0, none⟩ (.map (some w.heap.size))).heap.size = w.heap.size := by simp [World.setCell]
  have hm0 := World.ownsMap_made (w.setCell ⟨d, 0, none⟩ (.map (some w.heap.size))) Tryz.prog 9 RV
  rw [hss] at hm0
  have hD0 : Dk ((w.setCell ⟨d, 0, none⟩ (.map (some w.heap.size))).alloc (.map #[] 0)) d (.map (some w.heap.size)) syn sv ops cutAt cuts gone := (h.set.1 _).same (Below.heap_alloc _ _ d (by omega))
  have hgA : w.grownBy (w.setCell ⟨d, 0, none⟩ (.map (some w.heap.size))) (some d) := grownBy_setCell (World.grownBy.refl _ _)
  have hF0 : Fr (fun j => j = d) w ((w.setCell ⟨d, 0, none⟩ (.map (some w.heap.size))).alloc (.map #[] 0)) := ((Fr.refl (fun j => j = d) w).setCell (.inl rfl) _).alloc _
  have hcall0 := hcall _ hm0 hF0
  have hr0 := (hrow.kept hgA (.inr fun e => hsd e.symm)).alloc (.map #[] 0)
  have hsz0 : ((w.setCell ⟨d, 0, none⟩ (.map (some w.heap.size))).alloc (.map #[] 0)).heap.size = w.heap.size + 1 := by simp [hss]
  have hfA := h.free 0
  obtain ⟨W, hW⟩ : ∃ W, W = (w.setCell ⟨d, 0, none⟩ (.map (some w.heap.size))).alloc (.map #[] 0) := ⟨_, rfl⟩
  rw [← hW] at hD0 hcall0 hF0 hr0 hsz0
  have HW := hide2 hW
  clear hW
  obtain ⟨c0, c1, c2, c3, c4, c5, c6⟩ := h.cells
  obtain ⟨a0, a1, a2, a3, a4, a5, a6⟩ := hD0.cells
  have hq := mapNil none w
  have hmm := @run_makeMap Tryz.prog
  clear hcall hm0 hgA hss
  go_enter Tryz.func260, Tryz.ntmps260
  go_wp2_with fail
  rw [← HW.out]
  refine hcall0.mono ?_
  rintro e w1 ⟨rfl, ho1, hg1⟩
  clear hcall0 HW c0 c1 c2 c3 c4 c5 c6 a0 a1 a2 a3 a4 a5 a6 hq hmm hfA
  have h1 : Dk w1 d (.map (some w.heap.size)) syn sv ops cutAt cuts gone := hD0.same (hg1.block d (by omega) (by simpa using hdb))
  have hrow1 := hr0.kept hg1 (.inr hsb)
  have hs1 := hg1.size
  obtain ⟨c0, c1, c2, c3, c4, c5, c6⟩ := h1.cells
  have fr1 := h1.free 2
  go_wp2_with (first
    | (at_builtin
       refine wpList_append_own_at _ rfl _ _ 75 rfl B 370 i0 .nilFunc 1 8 Tryz.underlying75 hi hz0 hz1 hz2 rfl (by decide) _ _ _ rfl (hrow1.alloc _) ⟨w1.heap.size, 0, none⟩ 1 1 [.func (.func g) #[] cb] rfl rfl (cell_one_new _ _ _) (by simp [Value.oneCell']) (by unfold maxLen; omega) (by omega) (by simp; omega) ?_
       intro v' w2 hown' hgrow _ hblk
       obtain ⟨g', cap', rfl⟩ := row_succ hown'
       have h2 : Dk w2 d (.map (some w.heap.size)) syn sv ops cutAt cuts gone := h1.same ((hgrow.block d (by simp; omega) hsd).trans (Below.heap_alloc _ _ d (by omega)))
       have k2 := h2.cells.2.2.1
       have f2 := h2.free 2
       go_frame)
    | go_in)
  go_end0
  have hgd : g' ≠ d := fun e => by
    obtain ⟨cur, hh, _⟩ := row_block hown' (j := g') rfl
    unfold Dk at h2
    rw [e, h2] at hh
    simp at hh
  have hset : w2.grownBy (w2.setCell ⟨d, 2, none⟩ (.slice (some ⟨g', 0, none⟩) (k + 1) cap')) (some d) := grownBy_setCell (World.grownBy.refl _ _)
  have F0 : Fr (fun j => j = d ∨ sv.ownBlock = some j) w W := hF0.mono (fun j _ e => .inl e)
  have F1 : Fr (fun j => j = d ∨ sv.ownBlock = some j) w w1 := F0.trans (G := fun j => j = w.heap.size) (Fr.grown hg1 (fun j e => by cases e; rfl)) (fun j e => .inr (by omega))
  have F2 : Fr (fun j => j = d ∨ sv.ownBlock = some j) w w2 := (F1.alloc _).trans (G := fun j => sv.ownBlock = some j) (Fr.grown hgrow (fun j e => e)) (fun j e => .inl (.inr e))
  refine ⟨rfl, _, h2.set.2.2.1 _, ((ho1.alloc _).kept hgrow (fun e => hsb e.symm)).kept hset (by simpa using hdb.symm), hown'.kept hset (.inr (by simpa [Value.ownBlock] using hgd)), ?_, F2.setCell (.inl (.inl rfl)) _⟩
  rcases hblk with e | e
  · exact .inl e
  · exact .inr ⟨_, e, by simp; omega⟩
end Go.Proofs.YthfcjfhaoabdeaaGreatDoor

/-
  A file is made.
-/
set_option linter.unusedVariables false
set_option linter.unusedSimpArgs false
namespace Go.Proofs.YthfcjfhaoabdeaaGreatDoor
open Go.RowKit Go.Maps

/-- A directory that is there, for one that is nil. -/
def dn : DataW Value → DataW Value
  | .nil => .map []
  | D => D

theorem own_size {w : World} {b n : Nat} {D : DataW Value} (h : w.ownsMap Tryz.prog 9 RV b n D) : w.ownsMap Tryz.prog 9 RV b (Maps.size D) D := by
  obtain ⟨es, clock, hb, F, hs, rfl⟩ := h
  exact ⟨es, clock, hb, F, by simp [Maps.size, length_sorted], rfl⟩

theorem own_not_cells {w : World} {b n j : Nat} {D : DataW Value} {cur : Array Value} {t : TypeId} {fr : Nat × Nat} (h : w.ownsMap Tryz.prog 9 RV b n D) (hc : w.heap[j]? = some (.cells cur t fr)) : j ≠ b := by
  obtain ⟨es, clock, hb, _⟩ := h
  rintro rfl
  rw [hc] at hb
  cases hb

theorem own_dn {w : World} {b n : Nat} {D : DataW Value} (h : w.ownsMap Tryz.prog 9 RV b n D) : dn D = D := by
  obtain ⟨es, clock, hb, F, hs, rfl⟩ := h
  rfl

theorem change_any {w : World} {d B k g : Nat} {mb : Option Nat} {syn sv : Value} {ops cutAt : Int} {cuts gone : Bool} {D D' : DataW Value} {cb : Array Value} {cs : List Value}
    (h : Dk w d (.map mb) syn sv ops cutAt cuts gone) (hd : Dir w mb D) (hrow : w.ownsRow B 370 1 sv k cs) (hB : B ≤ w.heap.size) (hk : k < 1000000)
    (eg : ∀ args w, (callFunc g args).run Tryz.prog w = .ok (.enter g args) w)
    (hcall : ∀ (W : World) (b : Nat), W.ownsMap Tryz.prog 9 RV b (Maps.size D) (dn D) → (mb = some b ∨ w.heap.size ≤ b) → Fr (fun j => j = d) w W → Calls Tryz.prog g (#[.map (some b)] ++ cb) W fun e w' => e = .returned (.tuple #[]) ∧ w'.ownsMap Tryz.prog 9 RV b (Maps.size D + 1) D' ∧ W.grownBy w' (some b)) :
    Calls Tryz.prog 260 #[.pointer (some ⟨d, 0, none⟩), .func (.func g) #[] cb] w fun e w' => e = .returned (.tuple #[]) ∧
      ∃ b sv', (mb = some b ∨ mb = none ∧ w.heap.size ≤ b) ∧ Dk w' d (.map (some b)) syn sv' ops cutAt cuts gone ∧ w'.ownsMap Tryz.prog 9 RV b (Maps.size D + 1) D' ∧ w'.ownsRow B 370 1 sv' (k + 1) (cs ++ [.func (.func g) #[] cb]) ∧
        (sv'.ownBlock = sv.ownBlock ∨ ∃ j, sv'.ownBlock = some j ∧ w.heap.size ≤ j) ∧ Fr (fun j => j = d ∨ mb = some j ∨ sv.ownBlock = some j) w w' := by
  rcases hd with ⟨rfl, rfl⟩ | ⟨b, n, rfl, ho⟩
  · refine (change_nil h hrow hB hk eg (fun W hW hF => hcall W _ hW (.inr (Nat.le_refl _)) hF)).mono ?_
    rintro e w' ⟨rfl, sv', a1, a2, a3, a4, a5⟩
    refine ⟨rfl, _, sv', .inr ⟨rfl, Nat.le_refl _⟩, a1, a2, a3, ?_, a5.mono fun j _ e => ?_⟩
    · rcases a4 with e | ⟨j, e, h⟩
      · exact .inl e
      · exact .inr ⟨j, e, by omega⟩
    · rcases e with e | e
      · exact .inl e
      · exact .inr (.inr e)
  · have hdb := own_not_cells ho h
    have hsb : sv.ownBlock ≠ some b := fun e => by
      obtain ⟨cur, hh, _⟩ := row_block hrow e
      exact own_not_cells ho hh rfl
    have hds := own_dn ho
    refine (change_map h hrow hB hk hdb hsb eg (hcall w b (by rw [hds]; exact own_size ho) (.inl rfl) (Fr.refl _ _))).mono ?_
    rintro e w' ⟨rfl, sv', a1, a2, a3, a4, a5⟩
    refine ⟨rfl, _, sv', .inl rfl, a1, a2, a3, a4, a5.mono fun j _ e => ?_⟩
    rcases e with e | e | e
    · exact .inl e
    · exact .inr (.inl (by rw [e]))
    · exact .inr (.inr e)

/-- A file's cells. -/
def Fl (w : World) (f : Nat) (v : Value) (synced : Nat) : Prop := w.heap[f]? = some (.cells #[v, .int .i64 (synced : Int)] 200 (0, 0))
/-- A box that holds one thing. -/
def Box (w : World) (b : Nat) (v : Value) (t : TypeId) : Prop := w.heap[b]? = some (.cells #[v] t (0, 0))

theorem Box.cell {w : World} {b : Nat} {v : Value} {t : TypeId} (h : Box w b v t) : w.cell? ⟨b, 0, none⟩ = some v := by
  rw [Go.Joins.cell_of_block h]; rfl
theorem Box.free {w : World} {b : Nat} {v : Value} {t : TypeId} (h : Box w b v t) : w.frozen? ⟨b, 0, none⟩ = false := Go.Joins.unfrozen_of_block h 0
theorem Box.lt {w : World} {b : Nat} {v : Value} {t : TypeId} (h : Box w b v t) : b < w.heap.size := (Array.getElem?_eq_some_iff.1 h).1
theorem Box.set {w : World} {b : Nat} {v : Value} {t : TypeId} (h : Box w b v t) (u : Value) : Box (w.setCell ⟨b, 0, none⟩ u) b u t := by
  unfold Box at *
  rw [Go.Joins.block_setCell h]; rfl

theorem alloc3 (w : World) (o1 o2 o3 : Obj) : (((w.alloc o1).alloc o2).alloc o3).heap[w.heap.size]? = some o1 ∧ (((w.alloc o1).alloc o2).alloc o3).heap[w.heap.size + 1]? = some o2 ∧ (((w.alloc o1).alloc o2).alloc o3).heap[w.heap.size + 2]? = some o3 ∧
    (((w.alloc o1).alloc o2).alloc o3).heap.size = w.heap.size + 3 := by
  have e1 : (w.alloc o1).heap.size = w.heap.size + 1 := by simp
  have e2 : ((w.alloc o1).alloc o2).heap.size = w.heap.size + 2 := by simp
  refine ⟨?_, ?_, ?_, by simp⟩
  · exact (Below.heap_alloc _ _ _ (by omega)).trans ((Below.heap_alloc _ _ _ (by omega)).trans (heap_alloc_new w o1))
  · refine (Below.heap_alloc _ _ _ (by omega)).trans ?_
    rw [← e1]
    exact heap_alloc_new (w.alloc o1) o2
  · rw [← e2]
    exact heap_alloc_new ((w.alloc o1).alloc o2) o3

theorem row_same {w w' : World} {B : Nat} {e : TypeId} {v : Value} {k : Nat} {cs : List Value} (h : w.ownsRow B e 1 v k cs) (hs : ∀ j, v.ownBlock = some j → w'.heap[j]? = w.heap[j]?) : w'.ownsRow B e 1 v k cs := by
  refine ⟨h.1, ?_⟩
  rcases h.2 with hn | ⟨g, cap, cur, rfl, hb, hgg, rest⟩
  · exact .inl hn
  · exact .inr ⟨g, cap, cur, rfl, hb, (hs g rfl).trans hgg, rest⟩
theorem Fl.cells {w : World} {f : Nat} {v : Value} {n : Nat} (h : Fl w f v n) : w.cell? ⟨f, 0, none⟩ = some v ∧ w.cell? ⟨f, 1, none⟩ = some (.int .i64 (n : Int)) := by
  constructor <;> (rw [Go.Joins.cell_of_block h]; rfl)
theorem Fl.free {w : World} {f : Nat} {v : Value} {n : Nat} (h : Fl w f v n) (i : Nat) : w.frozen? ⟨f, i, none⟩ = false := Go.Joins.unfrozen_of_block h i
theorem Fl.lt {w : World} {f : Nat} {v : Value} {n : Nat} (h : Fl w f v n) : f < w.heap.size := (Array.getElem?_eq_some_iff.1 h).1
theorem Fl.set0 {w : World} {f : Nat} {v : Value} {n : Nat} (h : Fl w f v n) (u : Value) : Fl (w.setCell ⟨f, 0, none⟩ u) f u n := by
  unfold Fl at *
  rw [Go.Joins.block_setCell h]; rfl
theorem Fl.set1 {w : World} {f : Nat} {v : Value} {n : Nat} (h : Fl w f v n) (m : Nat) : Fl (w.setCell ⟨f, 1, none⟩ (.int .i64 (m : Int))) f v m := by
  unfold Fl at *
  rw [Go.Joins.block_setCell h]; rfl
theorem Dk.ne_row {w : World} {d j B : Nat} {e : TypeId} {now syn since v : Value} {ops cutAt : Int} {cuts gone : Bool} {k : Nat} {cs : List Value} (h : Dk w d now syn since ops cutAt cuts gone) (hr : w.ownsRow B e 1 v k cs) (he : e ≠ 77) (hj : v.ownBlock = some j) : j ≠ d := by
  obtain ⟨cur, hh, _⟩ := row_block hr hj
  rintro rfl
  unfold Dk at h
  rw [h] at hh
  simp at hh
  exact he hh.2.symm

def mkCl (f n : Nat) : Value := .func (.func 261) #[] #[.pointer (some ⟨f, 0, none⟩), .pointer (some ⟨n, 0, none⟩)]

theorem enter_made : ∀ args w, (callFunc 261 args).run Tryz.prog w = .ok (.enter 261 args) w := enters_of Tryz.func261 (by kernel_rfl) rfl

set_option maxHeartbeats 4000000 in
set_option maxRecDepth 100000 in
theorem create_any {w : World} {d B k : Nat} {mb : Option Nat} {syn sv : Value} {ops cutAt : Int} {cuts gone : Bool} {D : DataW Value} {cs : List Value}
    (h : Dk w d (.map mb) syn sv ops cutAt cuts gone) (hd : Dir w mb D) (hrow : w.ownsRow B 370 1 sv k cs) (hB : B ≤ w.heap.size) (hk : k < 1000000) (hD : Maps.size D < 1000000)
    (s : ByteArray) (hs1 : 1 ≤ s.size) (hs2 : s.size ≤ 1000000) :
    Calls Tryz.prog 233 #[.pointer (some ⟨d, 0, none⟩), .string s] w fun e w' =>
      ∃ f nb fb b sv', e = .returned (.pointer (some ⟨f, 0, none⟩)) ∧ w.heap.size ≤ f ∧ w.heap.size ≤ nb ∧ w.heap.size ≤ fb ∧ Fl w' f (.slice none 0 0) 0 ∧ Box w' nb (.string s) 9 ∧ Box w' fb (.pointer (some ⟨f, 0, none⟩)) 141 ∧
        (mb = some b ∨ mb = none ∧ w.heap.size ≤ b) ∧ Dk w' d (.map (some b)) syn sv' ops cutAt cuts gone ∧ w'.ownsMap Tryz.prog 9 RV b (Maps.size D + 1) ((dn D).put (.string s.data.toList) (.held (.pointer (some ⟨f, 0, none⟩)))) ∧
        w'.ownsRow B 370 1 sv' (k + 1) (cs ++ [mkCl fb nb]) ∧ (sv'.ownBlock = sv.ownBlock ∨ ∃ j, sv'.ownBlock = some j ∧ w.heap.size ≤ j) ∧ Fr (fun j => j = d ∨ mb = some j ∨ sv.ownBlock = some j) w w' := by
  have hlt := h.lt
  go_enter Tryz.func233, Tryz.ntmps233
  go_wp2_with fail
  refine (clone_any s _ hs1 (by omega)).mono ?_
  rintro e w1 ⟨rfl, hb1⟩
  obtain ⟨q1, q2, q3, q4⟩ := alloc3 w (.cells #[.string s] 9) (.cells #[.slice none 0 0, .int .i64 0] 200) (.cells #[.pointer (some ⟨w.heap.size + 1, 0, none⟩)] 141)
  have G0 : Fr (fun j => j = d ∨ mb = some j ∨ sv.ownBlock = some j) w (((w.alloc (.cells #[.string s] 9)).alloc (.cells #[.slice none 0 0, .int .i64 0] 200)).alloc (.cells #[.pointer (some ⟨w.heap.size + 1, 0, none⟩)] 141)) := (((Fr.refl _ w).alloc _).alloc _).alloc _
  have r0 := ((hrow.alloc (.cells #[.string s] 9)).alloc (.cells #[.slice none 0 0, .int .i64 0] 200)).alloc (.cells #[.pointer (some ⟨w.heap.size + 1, 0, none⟩)] 141)
  have B0 : Below w.heap.size w (((w.alloc (.cells #[.string s] 9)).alloc (.cells #[.slice none 0 0, .int .i64 0] 200)).alloc (.cells #[.pointer (some ⟨w.heap.size + 1, 0, none⟩)] 141)) := (((Below.refl _ _).alloc (Nat.le_refl _) _).alloc (by simp) _).alloc (by simp; omega) _
  generalize (((w.alloc (.cells #[.string s] 9)).alloc (.cells #[.slice none 0 0, .int .i64 0] 200)).alloc (.cells #[.pointer (some ⟨w.heap.size + 1, 0, none⟩)] 141)) = W0 at q1 q2 q3 q4 G0 B0 r0 hb1
  have hs1' := hb1.size
  have n1 : Box w1 w.heap.size (.string s) 9 := (hb1.block _ (by omega)).trans q1
  have f1 : Fl w1 (w.heap.size + 1) (.slice none 0 0) 0 := (hb1.block _ (by omega)).trans q2
  have p1 : Box w1 (w.heap.size + 2) (.pointer (some ⟨w.heap.size + 1, 0, none⟩)) 141 := (hb1.block _ (by omega)).trans q3
  have G1 : Fr (fun j => j = d ∨ mb = some j ∨ sv.ownBlock = some j) w w1 := G0.trans (G := fun _ => False) (Fr.below hb1) (fun _ e => e.elim)
  have B1 : Below w.heap.size w w1 := B0.trans (hb1.mono (by omega))
  have hjr : ∀ j, sv.ownBlock = some j → j < w.heap.size := fun j e => by
    obtain ⟨_, _, _, hl⟩ := row_block hrow e
    exact hl
  have hjm : ∀ j, mb = some j → j < w.heap.size := fun j e => by
    rcases hd with ⟨rfl, _⟩ | ⟨b, n, rfl, ho⟩
    · cases e
    · cases e; exact ho.lt
  have c1 := n1.cell
  have z1 := n1.free
  -- the world ahead of the change
  have n2 := n1.set (.string s)
  have ho2 : ∀ j, j ≠ w.heap.size → (w1.setCell ⟨w.heap.size, 0, none⟩ (.string s)).heap[j]? = w1.heap[j]? := fun j hj => Below.heap_setCell _ _ _ _ (by simpa using hj)
  have f2 : Fl (w1.setCell ⟨w.heap.size, 0, none⟩ (.string s)) (w.heap.size + 1) (.slice none 0 0) 0 := (ho2 _ (by omega)).trans f1
  have p2 : Box (w1.setCell ⟨w.heap.size, 0, none⟩ (.string s)) (w.heap.size + 2) (.pointer (some ⟨w.heap.size + 1, 0, none⟩)) 141 := (ho2 _ (by omega)).trans p1
  have G2 : Fr (fun j => j = d ∨ mb = some j ∨ sv.ownBlock = some j) w (w1.setCell ⟨w.heap.size, 0, none⟩ (.string s)) := G1.setCell (.inr (Nat.le_refl _)) _
  have B2 : Below w.heap.size w (w1.setCell ⟨w.heap.size, 0, none⟩ (.string s)) := B1.setCell (Nat.le_refl _) _
  have h2 : Dk (w1.setCell ⟨w.heap.size, 0, none⟩ (.string s)) d (.map mb) syn sv ops cutAt cuts gone := h.same (B2.block d hlt)
  have d2 : Dir (w1.setCell ⟨w.heap.size, 0, none⟩ (.string s)) mb D := Dir.same hd fun j e => B2.block j (hjm j e)
  have r2 : (w1.setCell ⟨w.heap.size, 0, none⟩ (.string s)).ownsRow B 370 1 sv k cs := row_same hrow fun j e => B2.block j (hjr j e)
  have s2 : (w1.setCell ⟨w.heap.size, 0, none⟩ (.string s)).heap.size = w1.heap.size := by simp [World.setCell]
  obtain ⟨W, hW⟩ : ∃ W, W = w1.setCell ⟨w.heap.size, 0, none⟩ (.string s) := ⟨_, rfl⟩
  rw [← hW] at n2 f2 p2 G2 B2 h2 d2 r2 s2
  have hch := change_any h2 d2 r2 (by omega) hk enter_made (D' := (dn D).put (.string s.data.toList) (.held (.pointer (some ⟨w.heap.size + 1, 0, none⟩)))) (cb := #[.pointer (some ⟨w.heap.size + 2, 0, none⟩), .pointer (some ⟨w.heap.size, 0, none⟩)]) (fun V b ho hb hF => by
    refine made_any ho (by unfold maxLen; omega) _ _ s _ (by unfold maxLen; omega) ?_ ?_
    · exact (hF.cell (p := ⟨w.heap.size + 2, 0, none⟩) p2.lt (by simp; omega)).trans p2.cell
    · exact (hF.cell (p := ⟨w.heap.size, 0, none⟩) n2.lt (by simp; omega)).trans n2.cell)
  have HW := hide2 hW
  clear hW hb1 q1 q2 q3 q4 r0 G0 B0 f1 p1 ho2 d2 r2
  go_wp2_with fail
  rw [← HW.out]
  refine hch.mono ?_
  rintro e w3 ⟨rfl, b, sv', hb, h3, o3, r3, v3, F3⟩
  have hnd : ∀ j, w.heap.size ≤ j → j < W.heap.size → w3.heap[j]? = W.heap[j]? := fun j hj hl => F3.block j hl (by
    rintro (rfl | e | e)
    · omega
    · have := hjm j e; omega
    · have := hjr j e; omega)
  have n3 : Box w3 w.heap.size (.string s) 9 := (hnd _ (by omega) n2.lt).trans n2
  have f3 : Fl w3 (w.heap.size + 1) (.slice none 0 0) 0 := (hnd _ (by omega) f2.lt).trans f2
  have p3 : Box w3 (w.heap.size + 2) (.pointer (some ⟨w.heap.size + 1, 0, none⟩)) 141 := (hnd _ (by omega) p2.lt).trans p2
  have cp := p3.cell
  have Fz : Fr (fun j => j = d ∨ mb = some j ∨ sv.ownBlock = some j) w w3 := G2.trans F3 (fun j e => .inl e)
  clear hch HW hnd c1 z1
  go_wp2
  go_ret
  refine ⟨_, _, _, b, sv', rfl, by omega, Nat.le_refl _, by omega, f3, n3, p3, ?_, h3, o3, r3, ?_, Fz⟩
  · rcases hb with e | ⟨e, hl⟩
    · exact .inl e
    · exact .inr ⟨e, by have := B2.size; omega⟩
  · rcases v3 with e | ⟨j, e, hl⟩
    · exact .inl e
    · exact .inr ⟨j, e, by have := B2.size; omega⟩
end Go.Proofs.YthfcjfhaoabdeaaGreatDoor

/-
  Append.
-/
set_option linter.unusedVariables false
set_option linter.unusedSimpArgs false
namespace Go.Proofs.YthfcjfhaoabdeaaGreatDoor
open Go.RowKit Go.Maps

/-- 'append(v, x...)', v an own row, x a slice of bytes; and where the new row lies. -/
theorem wpList_append_sl_at {P : Program} {w : World} {ops : Array Oper} {rest : List Oper} {o : Oper} {a : Act} {Q : Exit → Act → World → Prop} (hgd : o.guard = none) (s x : Operand) (t : TypeId)
    (ho : o.op = .call { callee := .builtin .append, args := #[s, x], argTypes := #[t, t] })
    (base : Nat) (i : TypeInfo) (ht : P.underlying t = some (.slice 5)) (hi : P.info? 5 = some i) (hz : i.zero = some (.int .u8 0)) (hsize : i.size = 1) (hby : i.bytes = 1)
    (v : Value) (xs : List Int) (hs : a.eval s = v) (hown : Own w base v xs) (ao : Option Addr) (len cap : Nat) (ys : List Int) (hx : a.eval x = .slice ao len cap) (hsl : Sl w ao len cap ys)
    (hlen : xs.length + len ≤ 140737488355328) (hbase : base ≤ w.heap.size)
    (h : ∀ v' w', Own w' base v' (xs ++ ys) → w.grownBy w' v.ownBlock → (v'.ownBlock = v.ownBlock ∨ v'.ownBlock = some w.heap.size) → wpList P ops Q rest (a.put o.dst v') w') : wpList P ops Q (o :: rest) a w := by
  obtain ⟨h1, h2, h3, h4, h5, h6⟩ := hsl
  cases ao with
  | none =>
    obtain ⟨rfl, rfl⟩ := h5 rfl
    obtain rfl : ys = [] := List.eq_nil_of_length_eq_zero h1
    exact wpList_append_own_none hgd s x t ho base 5 i 1 ht hi v _ _ hs hown hx (h v w (by simpa using hown) (World.grownBy.refl _ _) (.inl rfl))
  | some ad =>
    refine wpList_append_own_at w hgd s x t ho base 5 i (.int .u8 0) 1 1 ht hi hz hsize hby rfl (by decide) v _ _ hs hown ad len cap (bc ys) hx (by rw [bc_length]; omega) ?_ (bc_one ys) (by unfold maxLen; omega) (by omega) hbase ?_
    · intro j u hj
      obtain ⟨hj1, rfl⟩ := bc_get ys j u hj
      obtain ⟨b, off, e, _, hc⟩ := h6 (by omega)
      obtain rfl : ad = ⟨b, off, none⟩ := by simpa using e
      rw [addr_add]
      exact hc j (by omega)
    · intro v' w' ho' hg _ hb
      refine h v' w' ?_ hg hb
      refine Own.of_bc (n := xs.length + len) ?_ (by simp; omega)
      rw [bc_append]
      exact ho'

set_option maxHeartbeats 1000000 in
theorem room_new {w : World} {d : Nat} {mb : Option Nat} {syn since : Value} {ops cutAt : Int} {cuts gone : Bool} {D : DataW Value} (h : Dk w d (.map mb) syn since ops cutAt cuts gone) (hd : Dir w mb D) (n : Nat) (hn : n ≤ maxLen) :
    Calls Tryz.prog 232 #[.pointer (some ⟨d, 0, none⟩), .pointer none, .int .i64 (n : Int)] w fun e w' => e = .returned (.bool (decide (n ≤ 262144) && decide (Maps.size D < 64))) ∧ w' = w := by
  unfold maxLen at hn
  obtain ⟨c0, c1, c2, c3, c4, c5, c6⟩ := h.cells
  have hlen := hd.len 3
  by_cases a : n ≤ 262144
  · have a' : (n : Int) ≤ 262144 := by omega
    have e1 : decide (n ≤ 262144) = true := by simpa using a
    have e2 : decide ((Maps.size D : Int) < 64) = decide (Maps.size D < 64) := by rw [decide_eq_decide]; omega
    rw [e1]
    go_enter Tryz.func232, Tryz.ntmps232
    go_wp2
    go_ret
    exact ⟨ret_bool (by simp), rfl⟩
  · have a' : ¬ (n : Int) ≤ 262144 := by omega
    have e1 : decide (n ≤ 262144) = false := by simpa using a
    rw [e1]
    go_enter Tryz.func232, Tryz.ntmps232
    go_wp2
    go_ret
    exact ⟨rfl, rfl⟩

set_option maxHeartbeats 1000000 in
theorem room_old {w : World} {p : Value} {f : Nat} {ao : Option Addr} {l c sy : Nat} (h : Fl w f (.slice ao l c) sy) (hl : l ≤ maxLen) (n : Nat) (hn : n ≤ maxLen) :
    Calls Tryz.prog 232 #[p, .pointer (some ⟨f, 0, none⟩), .int .i64 (n : Int)] w fun e w' => e = .returned (.bool (decide (n + l ≤ 262144))) ∧ w' = w := by
  unfold maxLen at hn hl
  obtain ⟨c0, c1⟩ := h.cells
  go_enter Tryz.func232, Tryz.ntmps232
  go_wp2
  go_ret
  exact ⟨ret_bool (by rw [decide_eq_decide]; omega), rfl⟩

set_option maxHeartbeats 1000000 in
theorem append_bad {w : World} {d : Nat} {now syn since : Value} {ops cutAt : Int} {cuts gone : Bool} (h : Dk w d now syn since ops cutAt cuts gone) (hon : On ops cutAt cuts gone) (s : ByteArray) (hs : s.size ≤ maxLen) (hn : isName s = false) (bv : Value) :
    Calls Tryz.prog 177 #[.pointer (some ⟨d, 0, none⟩), .string s, bv] w fun e w' => e = .returned (.int .i64 20) ∧ Below w.heap.size w w' := by
  have hlt := h.lt
  have h1 : Dk (w.alloc (.cells #[.string s] 9)) d now syn since ops cutAt cuts gone := h.same (Below.heap_alloc _ _ d hlt)
  have hb1 : Below w.heap.size w (w.alloc (.cells #[.string s] 9)) := (Below.refl _ _).alloc (Nat.le_refl _) _
  have hst := start_one h1 hon w.heap.size 1 s hs (by simp) 20 (by simp [hn])
  go_enter Tryz.func177, Tryz.ntmps177
  go_wp2_with fail
  refine hst.mono ?_
  rintro e w' ⟨rfl, q, rfl⟩
  go_wp2
  go_ret
  exact ⟨rfl, hb1.trans ⟨rfl, rfl, rfl, Nat.le_refl _, fun _ _ => rfl⟩⟩

theorem Sl.fr {F : Nat → Prop} {w w' : World} {ao : Option Addr} {len cap : Nat} {xs : List Int} (h : Sl w ao len cap xs) (hf : Fr F w w') (hn : 0 < len → ∀ b off, ao = some ⟨b, off, none⟩ → ¬ F b) : Sl w' ao len cap xs := by
  obtain ⟨h1, h2, h3, h4, h5, h6⟩ := h
  refine ⟨h1, h2, h3, h4, h5, fun hl => ?_⟩
  obtain ⟨b, off, e, hlt, hc⟩ := h6 hl
  exact ⟨b, off, e, Nat.lt_of_lt_of_le hlt hf.size, fun i hi => (hf.cell (p := ⟨b, off + i, none⟩) hlt (hn hl b off e)).trans (hc i hi)⟩

set_option maxHeartbeats 4000000 in
set_option maxRecDepth 100000 in
theorem append_new {w : World} {d B k : Nat} {mb : Option Nat} {syn sv : Value} {ops cutAt : Int} {cuts gone : Bool} {D : DataW Value} {cs : List Value}
    (h : Dk w d (.map mb) syn sv ops cutAt cuts gone) (hon : On ops cutAt cuts gone) (hd : Dir w mb D) (hrow : w.ownsRow B 370 1 sv k cs) (hB : B ≤ w.heap.size) (hk : k < 1000000) (hD : Maps.size D < 64) (ho0 : 0 ≤ ops) (hops : ops < 65536)
    (s : ByteArray) (hn : isName s = true) (hl : Leads D s none) (ao : Option Addr) (len cap : Nat) (xs : List Int) (hx : Sl w ao len cap xs) (hxl : len ≤ 262144)
    (hxa : 0 < len → ∀ b off, ao = some ⟨b, off, none⟩ → b ≠ d ∧ mb ≠ some b ∧ sv.ownBlock ≠ some b) :
    Calls Tryz.prog 177 #[.pointer (some ⟨d, 0, none⟩), .string s, .slice ao len cap] w fun e w' =>
      ∃ f nb fb b sv' fv, e = .returned (.int .i64 0) ∧ w.heap.size ≤ f ∧ w.heap.size ≤ nb ∧ w.heap.size ≤ fb ∧ Fl w' f fv 0 ∧ Own w' B fv xs ∧ (∀ j, fv.ownBlock = some j → w.heap.size ≤ j) ∧ Box w' nb (.string s) 9 ∧ Box w' fb (.pointer (some ⟨f, 0, none⟩)) 141 ∧
        (mb = some b ∨ mb = none ∧ w.heap.size ≤ b) ∧ Dk w' d (.map (some b)) syn sv' (ops + 1) cutAt cuts gone ∧ w'.ownsMap Tryz.prog 9 RV b (Maps.size D + 1) ((dn D).put (.string s.data.toList) (.held (.pointer (some ⟨f, 0, none⟩)))) ∧
        w'.ownsRow B 370 1 sv' (k + 1) (cs ++ [mkCl fb nb]) ∧ (sv'.ownBlock = sv.ownBlock ∨ ∃ j, sv'.ownBlock = some j ∧ w.heap.size ≤ j) ∧ Fr (fun j => j = d ∨ mb = some j ∨ sv.ownBlock = some j) w w' := by
  have hlt := h.lt
  have hz := isName_size hn
  have hs : s.size ≤ maxLen := by unfold maxLen; omega
  have h1 : Dk (w.alloc (.cells #[.string s] 9)) d (.map mb) syn sv ops cutAt cuts gone := h.same (Below.heap_alloc _ _ d hlt)
  have hst := start_one h1 hon w.heap.size 1 s hs (by simp) 0 (by simp [hn])
  have hlen : len ≤ maxLen := by unfold maxLen; omega
  obtain ⟨i0, hi, hz0, hz1, hz2⟩ := info_parts Tryz.info5
  have hjr : ∀ j, sv.ownBlock = some j → j < w.heap.size := fun j e => by
    obtain ⟨_, _, _, hl⟩ := row_block hrow e
    exact hl
  have hjm : ∀ j, mb = some j → j < w.heap.size := fun j e => by
    rcases hd with ⟨rfl, _⟩ | ⟨b, n, rfl, ho⟩
    · cases e
    · cases e; exact ho.lt
  go_enter Tryz.func177, Tryz.ntmps177
  go_wp2_with fail
  refine hst.mono ?_
  rintro e w' ⟨rfl, q, rfl⟩
  have b1 : Below w.heap.size w ((w.alloc (.cells #[.string s] 9)).drewN q) := ((Below.refl _ _).alloc (Nat.le_refl _) _).trans ⟨rfl, rfl, rfl, Nat.le_refl _, fun _ _ => rfl⟩
  generalize (w.alloc (.cells #[.string s] 9)).drewN q = W at b1 ⊢
  clear hst h1
  have h1 : Dk W d (.map mb) syn sv ops cutAt cuts gone := h.same (b1.block d hlt)
  have d1 : Dir W mb D := Dir.same hd fun j e => b1.block j (hjm j e)
  have r1 : W.ownsRow B 370 1 sv k cs := row_same hrow fun j e => b1.block j (hjr j e)
  have x1 := hx.below b1
  have hlook := d1.look s hs none hl
  have hworn := worn_any h1
  have hw0 : decide (65536 ≤ ops) = false := by simp; omega
  rw [hw0] at hworn
  have hroom := room_new h1 d1 len hlen
  have hr0 : (decide (len ≤ 262144) && decide (Maps.size D < 64)) = true := by simp; omega
  rw [hr0] at hroom
  have hs1 := b1.size
  have hcr := create_any h1 d1 r1 (by omega) hk (by omega) s hz.1 (by omega)
  have hl63 : (len : Int) ≤ 262144 := by omega
  obtain ⟨c0, c1, c2, c3, c4, c5, c6⟩ := h1.cells
  clear hw0 hr0
  go_wp2_with (first
    | (go_at_call 181; refine hworn.mono ?_; rintro e w' ⟨rfl, rfl⟩)
    | (go_at_call 232; refine hroom.mono ?_; rintro e w' ⟨rfl, rfl⟩)
    | fail)
  refine hcr.mono ?_
  rintro e w2 ⟨f, nb, fb, b, sv', rfl, g1, g2, g3, f2, n2, p2, hb, h2, o2, r2, v2, F2⟩
  have x2 : Sl w2 ao len cap xs := x1.fr F2 (fun h0 b off e => by
    obtain ⟨a1, a2, a3⟩ := hxa h0 b off e
    rintro (h | h | h)
    · exact a1 h
    · exact a2 h
    · exact a3 h)
  have cf := f2.cells.1
  have hs2 := F2.size
  have hfd : f ≠ d := by omega
  have hdf : d ≠ f := by omega
  clear hcr hroom hworn hlook c0 c1 c2 c3 c4 c5 c6 x1 d1 r1 h1
  go_wp2_with (first
    | (at_builtin
       refine wpList_append_sl_at rfl _ _ 82 rfl B i0 Tryz.underlying82 hi hz0 hz1 hz2 (.slice none 0 0) [] rfl (World.ownsRow_nil _ _ _ _) ao len cap xs rfl x2 (by simp; omega) (by omega) ?_
       intro fv w3 own3 gr3 bl3
       have f3 : Fl w3 f (.slice none 0 0) 0 := (gr3.block f f2.lt (by simp [Value.ownBlock])).trans f2
       have cf3 := f3.cells.1
       have zf3 := f3.free 0
       have h3 : Dk w3 d (.map (some b)) syn sv' ops cutAt cuts gone := h2.same (gr3.block d h2.lt (by simp [Value.ownBlock]))
       have k3 := h3.cells.2.2.2.1
       have u3 := h3.free 3
       rw [List.nil_append] at own3
       obtain ⟨ao3, l3, cap3, rfl, sl3, ne3⟩ := own3.sl' x2.2.2.2.1
       go_frame)
    | go_in)
  go_ret
  -- behind the stores
  have S3 := gr3.size
  have hf4 : Fl (w3.setCell ⟨f, 0, none⟩ (.slice ao3 l3 cap3)) f (.slice ao3 l3 cap3) 0 := f3.set0 _
  have hd4 : Dk (w3.setCell ⟨f, 0, none⟩ (.slice ao3 l3 cap3)) d (.map (some b)) syn sv' ops cutAt cuts gone := h3.same (Below.heap_setCell _ _ _ _ (by simpa using hdf))
  have hd5 := hd4.set.2.2.2.1 (ops + 1)
  have keep : ∀ j, j < w2.heap.size → j ≠ f → j ≠ d → ((w3.setCell ⟨f, 0, none⟩ (.slice ao3 l3 cap3)).setCell ⟨d, 3, none⟩ (.int .i64 (ops + 1))).heap[j]? = w2.heap[j]? := fun j hj e1 e2 =>
    (Below.heap_setCell _ _ _ _ (by simpa using e2)).trans ((Below.heap_setCell _ _ _ _ (by simpa using e1)).trans (gr3.block j hj (by simp [Value.ownBlock])))
  have keep3 : ∀ j, j ≠ f → j ≠ d → ((w3.setCell ⟨f, 0, none⟩ (.slice ao3 l3 cap3)).setCell ⟨d, 3, none⟩ (.int .i64 (ops + 1))).heap[j]? = w3.heap[j]? := fun j e1 e2 =>
    (Below.heap_setCell _ _ _ _ (by simpa using e2)).trans (Below.heap_setCell _ _ _ _ (by simpa using e1))
  have hnf : nb ≠ f := fun e => by unfold Box at n2; unfold Fl at f2; rw [e, f2] at n2; simp at n2
  have hpf : fb ≠ f := fun e => by unfold Box at p2; unfold Fl at f2; rw [e, f2] at p2; simp at p2
  have hof : f ≠ b := own_not_cells o2 f2
  have hod : d ≠ b := own_not_cells o2 h2
  have hrf : ∀ j, sv'.ownBlock = some j → j ≠ f := fun j e => by
    obtain ⟨cur, hh, _⟩ := row_block r2 e
    rintro rfl
    unfold Fl at f2
    rw [f2] at hh
    simp at hh
  have hrl : ∀ j, sv'.ownBlock = some j → j < w2.heap.size := fun j e => by
    obtain ⟨_, _, _, hl⟩ := row_block r2 e
    exact hl
  have hsl : ∀ j, (Value.slice ao3 l3 cap3).ownBlock = some j → w2.heap.size ≤ j := fun j e => by
    rcases bl3 with h | h
    · rw [h] at e; simp [Value.ownBlock] at e
    · rw [h] at e; cases e; exact Nat.le_refl _
  have f2l := f2.lt
  have h2l := h2.lt
  refine ⟨f, nb, fb, b, sv', .slice ao3 l3 cap3, rfl, by omega, by omega, by omega, (Below.heap_setCell _ _ _ _ (by simpa using hfd)).trans hf4, ?_, ?_, (keep nb n2.lt hnf (by omega)).trans n2, (keep fb p2.lt hpf (by omega)).trans p2, ?_, hd5, ?_, ?_, ?_, ?_⟩
  · refine row_same own3 fun j e => keep3 j ?_ ?_
    · have := hsl j e; omega
    · have := hsl j e; omega
  · intro j e
    have := hsl j e
    omega
  · rcases hb with e | ⟨e, hl⟩
    · exact .inl e
    · exact .inr ⟨e, by omega⟩
  · obtain ⟨es, clock, hb', rest⟩ := o2
    exact ⟨es, clock, (keep b (Array.getElem?_eq_some_iff.1 hb').1 hof.symm hod.symm).trans hb', rest⟩
  · exact row_same r2 fun j e => keep j (hrl j e) (hrf j e) (h2.ne_row r2 (by decide) e)
  · rcases v2 with e | ⟨j, e, hl⟩
    · exact .inl e
    · exact .inr ⟨j, e, by omega⟩
  · have G1 : Fr (fun j => j = d ∨ mb = some j ∨ sv.ownBlock = some j) w w2 := (Fr.below b1).trans F2 (fun j e => .inl e)
    have G2 : Fr (fun j => j = d ∨ mb = some j ∨ sv.ownBlock = some j) w w3 := G1.trans (G := fun _ => False) (Fr.grown gr3 (fun j e => by simp [Value.ownBlock] at e)) (fun _ e => e.elim)
    exact (G2.setCell (.inr (by show w.heap.size ≤ f; omega)) _).setCell (.inl (.inl rfl)) _
end Go.Proofs.YthfcjfhaoabdeaaGreatDoor

/-
  The power that goes: CutAt, and every operation without power.
-/
set_option linter.unusedVariables false
set_option linter.unusedSimpArgs false
namespace Go.Proofs.YthfcjfhaoabdeaaGreatDoor
open Go.RowKit Go.Maps

/-- There is no power here, or it goes. -/
def Off (ops cutAt : Int) (cuts gone : Bool) : Prop := gone = true ∨ (cuts = true ∧ cutAt ≤ ops)

section
variable {w : World} {d : Nat} {now syn since : Value} {ops cutAt : Int} {cuts gone : Bool}

set_option maxHeartbeats 1000000 in
theorem start_off (h : Dk w d now syn since ops cutAt cuts gone) (hoff : Off ops cutAt cuts gone) (v : Value) :
    Calls Tryz.prog 180 #[.pointer (some ⟨d, 0, none⟩), v] w fun e w' => e = .returned (.int .i64 24) ∧ Dk w' d now syn since ops cutAt cuts true ∧ Fr (fun j => j = d) w w' := by
  obtain ⟨c0, c1, c2, c3, c4, c5, c6⟩ := h.cells
  have fr := h.free 6
  have HD := hide2 h
  cases cuts with
  | false =>
    have hg : gone = true := by
      rcases hoff with h | h
      · exact h
      · cases h.1
    subst hg
    clear hoff h
    go_enter Tryz.func180, Tryz.ntmps180
    go_wp2
    go_quiet (fail)
    go_wp2
    go_ret
    exact ⟨rfl, HD.out.same rfl, (Fr.refl _ w).drewN _⟩
  | true =>
    by_cases hc : cutAt ≤ ops
    · have hd0 : decide (cutAt ≤ ops) = true := by simpa using hc
      clear hoff h
      go_enter Tryz.func180, Tryz.ntmps180
      go_wp2
      go_quiet (fail)
      go_wp2
      go_ret
      exact ⟨rfl, Dk.set (HD.out.same rfl) |>.2.2.2.2.2.2 true, Fr.setCell (p := ⟨d, 6, none⟩) ((Fr.refl (fun j => j = d) w).drewN _) (.inl rfl) _⟩
    · have hg : gone = true := by
        rcases hoff with h | h
        · exact h
        · exact absurd h.2 hc
      subst hg
      have hd0 : decide (cutAt ≤ ops) = false := by simpa using hc
      clear hoff h
      go_enter Tryz.func180, Tryz.ntmps180
      go_wp2
      go_quiet (fail)
      go_wp2
      go_ret
      exact ⟨rfl, HD.out.same rfl, (Fr.refl _ w).drewN _⟩

set_option maxHeartbeats 1000000 in
theorem startOn_off (h : Dk w d now syn since ops cutAt cuts gone) (hoff : Off ops cutAt cuts gone) (s v : Value) :
    Calls Tryz.prog 235 #[.pointer (some ⟨d, 0, none⟩), s, v] w fun e w' => e = .returned (.int .i64 24) ∧ Dk w' d now syn since ops cutAt cuts true ∧ Fr (fun j => j = d) w w' := by
  have HS := hide2 (start_off h hoff v)
  clear h hoff
  go_enter Tryz.func235, Tryz.ntmps235
  go_wp2_with fail
  refine HS.out.mono ?_
  rintro e w' ⟨rfl, hD, hF⟩
  clear HS
  go_wp2
  go_ret
  exact ⟨rfl, hD, hF⟩

set_option maxHeartbeats 1000000 in
theorem sync_off (h : Dk w d now syn since ops cutAt cuts gone) (hoff : Off ops cutAt cuts gone) (s : ByteArray) :
    Calls Tryz.prog 179 #[.pointer (some ⟨d, 0, none⟩), .string s] w fun e w' => e = .returned (.int .i64 24) ∧ Dk w' d now syn since ops cutAt cuts true ∧ Fr (fun j => j = d) w w' := by
  have HS := hide2 (fun v => startOn_off h hoff (.string s) v)
  clear h hoff
  go_enter Tryz.func179, Tryz.ntmps179
  go_wp2_with fail
  refine (HS.out _).mono ?_
  rintro e w' ⟨rfl, hD, hF⟩
  clear HS
  go_wp2
  go_ret
  exact ⟨rfl, hD, hF⟩
set_option maxHeartbeats 1000000 in
theorem syncDir_off (h : Dk w d now syn since ops cutAt cuts gone) (hoff : Off ops cutAt cuts gone) :
    Calls Tryz.prog 139 #[.pointer (some ⟨d, 0, none⟩)] w fun e w' => e = .returned (.int .i64 24) ∧ Dk w' d now syn since ops cutAt cuts true ∧ Fr (fun j => j = d) w w' := by
  have HS := hide2 (fun v => start_off h hoff v)
  clear h hoff
  go_enter Tryz.func139, Tryz.ntmps139
  go_wp2_with fail
  refine (HS.out _).mono ?_
  rintro e w' ⟨rfl, hD, hF⟩
  clear HS
  go_wp2
  go_ret
  exact ⟨rfl, hD, hF⟩
set_option maxHeartbeats 1000000 in
theorem append_off (h : Dk w d now syn since ops cutAt cuts gone) (hoff : Off ops cutAt cuts gone) (s : ByteArray) (v : Value) :
    Calls Tryz.prog 177 #[.pointer (some ⟨d, 0, none⟩), .string s, v] w fun e w' => e = .returned (.int .i64 24) ∧ Dk w' d now syn since ops cutAt cuts true ∧ Fr (fun j => j = d) w w' := by
  have HL := hide2 h.lt
  have hal : ∀ o : Obj, Dk (w.alloc o) d now syn since ops cutAt cuts gone := fun o => h.same (Below.heap_alloc _ _ d h.lt)
  have HS := hide2 (fun o v => start_off (hal o) hoff v)
  clear h hoff hal
  go_enter Tryz.func177, Tryz.ntmps177
  go_wp2_with fail
  refine (HS.out _ _).mono ?_
  rintro e w' ⟨rfl, hD, hF⟩
  clear HS
  go_wp2
  go_ret
  exact ⟨rfl, hD, Fr.trans ((Fr.refl (fun j => j = d) w).alloc _) hF (fun j e => .inl e)⟩
set_option maxHeartbeats 1000000 in
theorem read_off (h : Dk w d now syn since ops cutAt cuts true) (s : ByteArray) :
    Calls Tryz.prog 67 #[.pointer (some ⟨d, 0, none⟩), .string s] w fun e w' => e = .returned (.tuple #[.slice none 0 0, .int .i64 24]) ∧ w' = w := by
  obtain ⟨c0, c1, c2, c3, c4, c5, c6⟩ := h.cells
  clear h
  go_enter Tryz.func67, Tryz.ntmps67
  go_wp2
  go_ret2
  exact ⟨rfl, rfl⟩
end
end Go.Proofs.YthfcjfhaoabdeaaGreatDoor
