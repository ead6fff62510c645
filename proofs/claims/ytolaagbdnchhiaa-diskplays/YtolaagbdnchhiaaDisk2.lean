/-
  A text's copy; the closures that change a directory; how a change is done and kept.
-/
import Derived.Test.YtolaagbdnchhiaaDisk1
import Derived.Test.YtolaagbdnchhiaaKit2
import Derived.Lib.UnsafeStr
import Derived.Lib.BufferWrite
import Derived.Laws.MakeOwn
import Derived.Maps.AppendAt
set_option linter.unusedVariables false
set_option linter.unusedSimpArgs false
namespace Go.Proofs.Ytolaagbdnchhiaa
open Go.RowKit Go.Maps

theorem Try.info5 : (Try.prog.info? 5).map (fun i => (i.zero, i.size, i.bytes)) = some (some (.int .u8 0), 1, 1) := by kernel_rfl

set_option maxRecDepth 100000 in
set_option maxHeartbeats 4000000 in
theorem strClone_any (s : ByteArray) (w : World) (h1 : 1 ≤ s.size) (hlim : s.size ≤ 281474976710656) :
    Calls Try.prog 63 #[.string s] w fun e w' => e = .returned (.string s) ∧ Below w.heap.size w w' := by
  obtain ⟨i0, hi, hz0, hz1, hz2⟩ := info_parts Try.info5
  have hinfo : (Try.prog.info? 5).map (·.size) = some 1 := by rw [hi]; simp [hz1]
  have hco : Try.prog.cellsOf 5 = 1 := by simp [Program.cellsOf, hi, hz1]
  obtain ⟨M, hM⟩ : ∃ M, M = madeCells (Value.int .u8 0).cells (((s.size : Nat) : Int).toNat * i0.size) := ⟨_, rfl⟩
  have hMs : M.size = s.size := by rw [hM, size_madeCells, hz1]; simp
  have hmk : ∀ W : World, (Instr.makeSlice 32 (.int .i64 (s.size : Int)) (.int .i64 (s.size : Int))).run Try.prog W = .ok (.slice (some ⟨W.heap.size, 0, none⟩) s.size s.size) (W.alloc (.cells M 5)) := fun W => by
    have h := run_make (P := Try.prog) W 32 5 i0 (.int .u8 0) Try.underlying32 hi hz0 .i64 .i64 (s.size : Int) (s.size : Int) (by omega) (by omega) (by rw [hz2]; omega) (by omega)
    rw [← hM] at h
    simpa using h
  clear hM
  have hcp := Lib.run_copy_row_string (P := Try.prog) (w.alloc (.cells M 5)) 32 9 3 5 w.heap.size 0 s.size s.size s M 5 Try.underlying32 hinfo (heap_alloc_new w _) (Nat.le_refl _) (by omega)
  obtain ⟨Y, hY⟩ : ∃ Y, Y = (M.toList.take 0 ++ Lib.byteCells s.data.toList ++ M.toList.drop (0 + s.size)).toArray := ⟨_, rfl⟩
  rw [← hY] at hcp
  have hYl : Y.toList = Lib.byteCells s.data.toList := by
    rw [hY, List.toList_toArray, List.take_zero, List.nil_append, List.drop_of_length_le (by rw [Array.length_toList]; omega), List.append_nil]
  have hYs : Y.size = s.size := by rw [← Array.length_toList, hYl, Lib.byteCells_length, ← Lib.size_eq]
  have hgY : ((w.alloc (.cells M 5)).setRow w.heap.size Y).heap[w.heap.size]? = some (.cells Y 5 (0, 0)) := setRow_heap _ _ M _ 5 (0, 0) (heap_alloc_new w _)
  have hne : s.data.toList ≠ [] := fun e => by have h0 : s.size = 0 := (by rw [Lib.size_eq, e]; rfl); omega
  have hUS := Lib.run_unsafeString_row (P := Try.prog) ((w.alloc (.cells M 5)).setRow w.heap.size Y) 106 3 9 5 Try.underlying106 hco w.heap.size Y.size (by unfold World.shape?; rw [hgY]) s.data.toList hne (by rw [← Lib.size_eq]; omega) (by rw [← Lib.size_eq]; omega)
    (fun j x hx => Lib.cells_of_row hgY Y.size j _ (by rw [List.take_of_length_le (by rw [Array.length_toList]; exact Nat.le_refl _), hYl]; simp [Lib.byteCells, hx]))
  rw [← Lib.size_eq] at hUS
  clear hY
  have h0 : ¬ s.size = 0 := by omega
  go_enter Try.func63, Try.ntmps63
  go_wp2
  go_ret
  have hb1 : Below w.heap.size w (w.alloc (.cells M 5)) := (Below.refl _ w).alloc (Nat.le_refl _) _
  have hb2 : Below w.heap.size (w.alloc (.cells M 5)) ((w.alloc (.cells M 5)).setRow w.heap.size Y) := ⟨rfl, rfl, rfl, by simp, fun k hk => setRow_other _ _ _ _ (by omega)⟩
  exact ⟨rfl, Lib.below_freeze (hb1.trans hb2) (p := ⟨w.heap.size, 0, none⟩) (Nat.le_refl _) _⟩

theorem clone_any (s : ByteArray) (w : World) (h1 : 1 ≤ s.size) (hlim : s.size ≤ 281474976710656) :
    Calls Try.prog 43 #[.string s] w fun e w' => e = .returned (.string s) ∧ Below w.heap.size w w' := by
  go_enter Try.func43, Try.ntmps43
  go_wp2_with fail
  refine (strClone_any s w h1 hlim).mono ?_
  rintro e w' ⟨rfl, hb⟩
  go_wp2
  go_ret
  exact ⟨rfl, hb⟩

/-- Outside F, all that was there is as it was. -/
structure Fr (F : Nat → Prop) (w w' : World) : Prop where
  os : w'.os = w.os
  tape : w'.tape = w.tape
  output : w'.output = w.output
  size : w.heap.size ≤ w'.heap.size
  block : ∀ k, k < w.heap.size → ¬ F k → w'.heap[k]? = w.heap[k]?

section
variable {F G : Nat → Prop} {a b c w w' : World}
theorem Fr.refl (F : Nat → Prop) (w : World) : Fr F w w := ⟨rfl, rfl, rfl, Nat.le_refl _, fun _ _ _ => rfl⟩
theorem Fr.trans (h : Fr F a b) (k : Fr G b c) (hG : ∀ j, G j → F j ∨ a.heap.size ≤ j) : Fr F a c :=
  ⟨k.os.trans h.os, k.tape.trans h.tape, k.output.trans h.output, Nat.le_trans h.size k.size, fun j hj hF => by
    refine (k.block j (Nat.lt_of_lt_of_le hj h.size) fun hg => ?_).trans (h.block j hj hF)
    rcases hG j hg with h1 | h1
    · exact hF h1
    · omega⟩
theorem Fr.mono (h : Fr F a b) (hG : ∀ j, j < a.heap.size → F j → G j) : Fr G a b := ⟨h.os, h.tape, h.output, h.size, fun j hj hn => h.block j hj fun hf => hn (hG j hj hf)⟩
theorem Fr.below (h : Below w.heap.size w w') : Fr F w w' := ⟨h.os, h.tape, h.output, h.size, fun k hk _ => h.block k hk⟩
theorem Fr.grown {row : Option Nat} (h : w.grownBy w' row) (hr : ∀ j, row = some j → F j) : Fr F w w' :=
  ⟨h.os, h.tape, h.output, h.size, fun k hk hF => h.block k hk fun e => hF (hr k e.symm)⟩
theorem Fr.setCell (h : Fr F a w) {p : Addr} (hp : F p.block ∨ a.heap.size ≤ p.block) (v : Value) : Fr F a (w.setCell p v) :=
  ⟨h.os, h.tape, h.output, by simpa [World.setCell] using h.size, fun k hk hF => (Below.heap_setCell _ _ _ _ (by
    intro e
    rcases hp with hp | hp
    · exact hF (e ▸ hp)
    · omega)).trans (h.block k hk hF)⟩
theorem Fr.alloc (h : Fr F a w) (o : Obj) : Fr F a (w.alloc o) := h.trans (G := fun _ => False) (Fr.below ((Below.refl _ _).alloc (Nat.le_refl _) _)) (fun _ h => h.elim)
theorem Fr.drewN (h : Fr F a w) (q : Nat) : Fr F a (w.drewN q) := ⟨h.os, h.tape, h.output, h.size, h.block⟩
theorem Fr.to {n : Nat} (h : Fr F w w') (hF : ∀ k, k < n → ¬ F k) (hn : n ≤ w.heap.size) : Below n w w' := ⟨h.os, h.tape, h.output, h.size, fun k hk => h.block k (Nat.lt_of_lt_of_le hk hn) (hF k hk)⟩
theorem Fr.cell (h : Fr F w w') {p : Addr} (hp : p.block < w.heap.size) (hF : ¬ F p.block) : w'.cell? p = w.cell? p := World.cell?_of_block (h.block _ hp hF)
end

theorem Dir.same {w w' : World} {mb : Option Nat} {D : DataW Value} (h : Dir w mb D) (e : ∀ b, mb = some b → w'.heap[b]? = w.heap[b]?) : Dir w' mb D := by
  rcases h with h | ⟨b, n, rfl, es, clock, hb, F, hs, hD⟩
  · exact .inl h
  · exact .inr ⟨b, n, rfl, es, clock, (e b rfl).trans hb, F, hs, hD⟩

set_option maxHeartbeats 400000 in
/-- What is done for a file that is made. -/
theorem made_any {w : World} {b n : Nat} {D : DataW Value} (ho : w.ownsMap Try.prog 9 RV b n D) (hn : n < maxLen) (fb nb : Nat) (s : ByteArray) (p : Option Addr) (hs : s.size ≤ maxLen)
    (hf : w.cell? ⟨fb, 0, none⟩ = some (.pointer p)) (hc : w.cell? ⟨nb, 0, none⟩ = some (.string s)) :
    Calls Try.prog 65 (#[.map (some b)] ++ #[.pointer (some ⟨fb, 0, none⟩), .pointer (some ⟨nb, 0, none⟩)]) w fun e w' => e = .returned (.tuple #[]) ∧
      w'.ownsMap Try.prog 9 RV b (n + 1) (D.put (.string s.data.toList) (.held (.pointer p))) ∧ w.grownBy w' (some b) := by
  obtain ⟨w1, hrun, ho1, hg1⟩ := ho.update dirKeyed Try.underlying58 hn (key_str s hs) (val := .pointer p) rfl
  go_enter Try.func65, Try.ntmps65
  go_wp2
  go_end0
  exact ⟨rfl, ho1, hg1⟩

set_option maxHeartbeats 400000 in
/-- What is done for a file that is deleted. -/
theorem deleted_any {w : World} {b n : Nat} {D : DataW Value} (ho : w.ownsMap Try.prog 9 RV b n D) (nb : Nat) (s : ByteArray) (hs : s.size ≤ maxLen) (hc : w.cell? ⟨nb, 0, none⟩ = some (.string s)) :
    Calls Try.prog 45 (#[.map (some b)] ++ #[.pointer (some ⟨nb, 0, none⟩)]) w fun e w' => e = .returned (.tuple #[]) ∧
      w'.ownsMap Try.prog 9 RV b n (D.del (.string s.data.toList)) ∧ w.grownBy w' (some b) := by
  obtain ⟨w1, hrun, ho1, hg1⟩ := ho.drop dirKeyed Try.underlying58 (key_str s hs) 0
  have hg2 := hg1.grown
  clear hg1
  go_enter Try.func45, Try.ntmps45
  go_wp2
  go_end0
  exact ⟨rfl, ho1, hg2⟩

set_option maxHeartbeats 1000000 in
/-- What is done for a file that is renamed. -/
theorem renamed_any {w : World} {b n : Nat} {D : DataW Value} (ho : w.ownsMap Try.prog 9 RV b n D) (hn : n < maxLen) (nb mb : Nat) (s t : ByteArray) (hs : s.size ≤ maxLen) (ht : t.size ≤ maxLen) (hc : w.cell? ⟨nb, 0, none⟩ = some (.string s)) (hd : w.cell? ⟨mb, 0, none⟩ = some (.string t))
    (p : Option Addr) (hl : Leads D s p) (hnb : nb ≠ b) (hmb : mb ≠ b) (hnl : nb < w.heap.size) (hml : mb < w.heap.size) :
    Calls Try.prog 61 (#[.map (some b)] ++ #[.pointer (some ⟨nb, 0, none⟩), .pointer (some ⟨mb, 0, none⟩)]) w fun e w' => e = .returned (.tuple #[]) ∧
      w'.ownsMap Try.prog 9 RV b (n + 1) ((D.del (.string s.data.toList)).put (.string t.data.toList) (.held (.pointer p))) ∧ w.grownBy w' (some b) := by
  have hlook := Dir.look (mb := some b) (.inr ⟨b, n, rfl, ho⟩) s hs p hl
  obtain ⟨w1, hrun, ho1, hg1⟩ := ho.drop dirKeyed Try.underlying58 (key_str s hs) 0
  have hg2 := hg1.grown
  have hd1 : w1.cell? ⟨mb, 0, none⟩ = some (.string t) := hg2.cell hd (by simpa using hmb)
  obtain ⟨w2, hrun2, ho2, hg3⟩ := ho1.update dirKeyed Try.underlying58 hn (key_str t ht) (val := .pointer p) rfl
  have hg4 : w.grownBy w2 (some b) := hg2.andThen hg3 (fun j hj => .inr hj)
  clear hg1 hg2 hg3 ho ho1
  go_enter Try.func61, Try.ntmps61
  go_wp2
  go_end0
  exact ⟨rfl, ho2, hg4⟩
end Go.Proofs.Ytolaagbdnchhiaa
