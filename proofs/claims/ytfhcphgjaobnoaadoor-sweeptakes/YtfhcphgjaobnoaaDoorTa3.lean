/-
  What stands by numbers: add. (Printed by gen_ta3.py.)
-/
import Derived.Test.YtfhcphgjaobnoaaDoorTa2
set_option linter.unusedVariables false
set_option linter.unusedSimpArgs false
namespace Go.Proofs.YtfhcphgjaobnoaaDoor
open Go.RowKit Go.Maps

section
variable {w w' : World} {sb d l0 l1 l2 q k b : Nat} {m0 m1 m2 : Option Nat} {f f' : Int → Option Value}
theorem Sb.ne (h : Sb w sb d l0 m0 l1 m1 l2 m2) {b : Nat} (hm : ∃ es clock, w.heap[b]? = some (.map es clock)) : sb ≠ b := by
  obtain ⟨es, clock, hb⟩ := hm
  intro e
  unfold Sb at h
  rw [e, hb] at h
  cases h
theorem Mp.fr {G : Nat → Prop} {mb : Option Nat} (h : Mp w mb f q k) (hF : Fr G w w') (hn : ∀ j, mb = some j → ¬ G j) : Mp w' mb f q k := h.same (fun j e => hF.block j (h.lt e) (hn j e))
theorem nilN_no (b : Nat) (u : World) : (binOp .eql 94 (.map (some b)) (.map none)).run Tryd.prog u = .ok (.bool false) u := by kernel_rfl
theorem nilN_yes (u : World) : (binOp .eql 94 (.map none) (.map none)).run Tryd.prog u = .ok (.bool true) u := by kernel_rfl
theorem nilV_no (b : Nat) (u : World) : (binOp .eql 97 (.map (some b)) (.map none)).run Tryd.prog u = .ok (.bool false) u := by kernel_rfl
theorem nilV_yes (u : World) : (binOp .eql 97 (.map none) (.map none)).run Tryd.prog u = .ok (.bool true) u := by kernel_rfl
theorem nilT_no (b : Nat) (u : World) : (binOp .eql 100 (.map (some b)) (.map none)).run Tryd.prog u = .ok (.bool false) u := by kernel_rfl
theorem nilT_yes (u : World) : (binOp .eql 100 (.map none) (.map none)).run Tryd.prog u = .ok (.bool true) u := by kernel_rfl
set_option maxRecDepth 100000 in
set_option maxHeartbeats 4000000 in
theorem addN_some {x0 x1 : Int} (h : Sb w sb d l0 (some b) l1 m1 l2 m2) (hm : Mp w (some b) f q k) (hq : q < 1000000000) (hl : l0 < 1000000000) (e0 : f ((l0 + 1 : Nat) : Int) = none) (e1 : f' ((l0 + 1 : Nat) : Int) = some (.agg #[.int .i64 x0, .int .i64 x1])) (e2 : ∀ m, m ≠ ((l0 + 1 : Nat) : Int) → f' m = f m) :
    Calls Tryd.prog 60 #[.pointer (some ⟨sb, 1, none⟩), .agg #[.int .i64 x0, .int .i64 x1]] w fun e w' => e = .returned (.int .i64 ((l0 + 1 : Nat) : Int)) ∧ Sb w' sb d (l0 + 1) (some b) l1 m1 l2 m2 ∧ Mp w' (some b) f' (q + 1) (k + 1) ∧ Fr (fun j => j = sb ∨ j = b) w w' := by
  have el : ((l0 + 1 : Nat) : Int) = (l0 : Int) + 1 := by omega
  have hlt := h.lt
  obtain ⟨U, hU⟩ : ∃ x, x = (w.setCell ⟨sb, 1, none⟩ (.int .i64 ((l0 : Int) + 1))) := ⟨_, rfl⟩
  have hs0 : U.heap.size = w.heap.size := by rw [hU]; simp
  obtain ⟨V, hV⟩ : ∃ x, x = U.alloc (.cells #[.int .i64 x0, .int .i64 x1] 91) := ⟨_, rfl⟩
  obtain ⟨W2, hW2⟩ : ∃ x, x = V := ⟨_, rfl⟩
  have hu : Sb U sb d (l0 + 1) (some b) l1 m1 l2 m2 := by
    have a := h
    have := a.set.1 (l0 + 1)
    rw [el, ← hU] at this
    exact this
  have hFU : Fr (fun j => j = sb) w U := by
    rw [hU]
    exact Fr.setCell (p := ⟨sb, 1, none⟩) (Fr.refl (fun j => j = sb) _) (.inl rfl) _
  have hbV : Below U.heap.size U V := by rw [hV]; exact (Below.refl _ _).alloc (Nat.le_refl _) _
  have hsV : V.heap.size = U.heap.size + 1 := by rw [hV]; simp
  have hbW : Below V.heap.size V W2 := by rw [hW2]; exact Below.refl _ _
  have hb2 : Below U.heap.size U W2 := hbV.trans ⟨hbW.os, hbW.tape, hbW.output, hbW.size, fun j hj => hbW.block j (by omega)⟩
  have h2 : Sb W2 sb d (l0 + 1) (some b) l1 m1 l2 m2 := hu.same (hb2.block _ hu.lt)
  have hF2 : Fr (fun j => j = sb) w W2 := hFU.trans (G := fun _ => False) (Fr.below hb2) (fun j e => e.elim)
  have hne : sb ≠ b := h.ne (hm.kind rfl)
  have hm2 : Mp W2.drew (some b) f q k := hm.fr (hF2.trans (G := fun _ => False) (Fr.refl _ W2).drew (fun j e => e.elim)) (fun j e q => hne (by cases e; exact q.symm))
  obtain ⟨w3, hrun, hm3, ht3⟩ := hm2.store Tryd.underlying94 (by unfold maxLen; omega) (by omega) (by omega) (.agg #[.int .i64 x0, .int .i64 x1]) e0 e1 e2
  have hF3 : Fr (fun j => j = b) W2 w3 := (Fr.refl (fun j => j = b) W2).drew.trans (Fr.grown ht3.grown (fun j e => by simpa using e.symm)) (fun j e => .inl e)
  have h3 : Sb w3 sb d (l0 + 1) (some b) l1 m1 l2 m2 := h2.same (hF3.block _ h2.lt hne)
  have c3 := h3.cells
  have c1 := h.cells
  have f1 := h.free 1
  have f2 := h.free 2
  rw [el] at hrun c3
  obtain ⟨c10, c11, c12, c13, c14, c15, c16⟩ := c1
  obtain ⟨c30, c31, c32, c33, c34, c35, c36⟩ := c3
  have hlt3 := h3.lt
  have H3 := hide2 h3
  have HM := hide2 hm3
  have HF : Hid (Fr (fun j => j = sb ∨ j = b) w w3) := hide2 ((hF2.mono (G := fun j => j = sb ∨ j = b) (fun _ _ e => .inl e)).trans hF3 (fun j e => .inl (.inr e)))
  rw [el]
  clear h hu h2 h3 hm3 ht3 hF2 hF3 hFU e0 e1 e2 hm2 hm hb2 hbV hbW el hs0 hsV
  skip
  subst hW2
  subst hV
  subst hU
  have hnil := nilN_no b
  go_enter Tryd.func60, Tryd.ntmps60
  go_wp2
  go_region
  all_goals
    go_wp2
    go_ret
    refine ⟨rfl, H3.out, HM.out, HF.out⟩
set_option maxRecDepth 100000 in
set_option maxHeartbeats 4000000 in
theorem addN_none {x0 x1 : Int} (h : Sb w sb d l0 none l1 m1 l2 m2) (hf0 : ∀ n, f n = none) (hq : q < 1000000000) (hl : l0 < 1000000000) (e0 : f ((l0 + 1 : Nat) : Int) = none) (e1 : f' ((l0 + 1 : Nat) : Int) = some (.agg #[.int .i64 x0, .int .i64 x1])) (e2 : ∀ m, m ≠ ((l0 + 1 : Nat) : Int) → f' m = f m) :
    Calls Tryd.prog 60 #[.pointer (some ⟨sb, 1, none⟩), .agg #[.int .i64 x0, .int .i64 x1]] w fun e w' => e = .returned (.int .i64 ((l0 + 1 : Nat) : Int)) ∧ ∃ b, w.heap.size ≤ b ∧ Sb w' sb d (l0 + 1) (some b) l1 m1 l2 m2 ∧ Mp w' (some b) f' (q + 1) 1 ∧ Fr (fun j => j = sb) w w' := by
  have el : ((l0 + 1 : Nat) : Int) = (l0 : Int) + 1 := by omega
  have hlt := h.lt
  obtain ⟨U, hU⟩ : ∃ x, x = ((w.setCell ⟨sb, 2, none⟩ (.map (some (w.heap.size + 1)))).setCell ⟨sb, 1, none⟩ (.int .i64 ((l0 : Int) + 1))) := ⟨_, rfl⟩
  have hs0 : U.heap.size = w.heap.size := by rw [hU]; simp
  obtain ⟨V, hV⟩ : ∃ x, x = U.alloc (.cells #[.int .i64 x0, .int .i64 x1] 91) := ⟨_, rfl⟩
  obtain ⟨W2, hW2⟩ : ∃ x, x = V.alloc (.map #[] 0) := ⟨_, rfl⟩
  have hu : Sb U sb d (l0 + 1) (some (w.heap.size + 1)) l1 m1 l2 m2 := by
    have a := h.set.2.1 (some (w.heap.size + 1))
    have := a.set.1 (l0 + 1)
    rw [el, ← hU] at this
    exact this
  have hFU : Fr (fun j => j = sb) w U := by
    rw [hU]
    exact Fr.setCell (p := ⟨sb, 1, none⟩) (Fr.setCell (p := ⟨sb, 2, none⟩) (Fr.refl (fun j => j = sb) _) (.inl rfl) _) (.inl rfl) _
  have hbV : Below U.heap.size U V := by rw [hV]; exact (Below.refl _ _).alloc (Nat.le_refl _) _
  have hsV : V.heap.size = U.heap.size + 1 := by rw [hV]; simp
  have hbW : Below V.heap.size V W2 := by rw [hW2]; exact (Below.refl _ _).alloc (Nat.le_refl _) _
  have hb2 : Below U.heap.size U W2 := hbV.trans ⟨hbW.os, hbW.tape, hbW.output, hbW.size, fun j hj => hbW.block j (by omega)⟩
  have h2 : Sb W2 sb d (l0 + 1) (some (w.heap.size + 1)) l1 m1 l2 m2 := hu.same (hb2.block _ hu.lt)
  have hF2 : Fr (fun j => j = sb) w W2 := hFU.trans (G := fun _ => False) (Fr.below hb2) (fun j e => e.elim)
  obtain ⟨b, hb⟩ : ∃ b, b = w.heap.size + 1 := ⟨_, rfl⟩
  rw [← hb] at h2
  have hne : sb ≠ b := by omega
  have hbs : b = V.heap.size := by omega
  have hm2 : Mp W2.drew (some b) f q 0 := by
    have : Mp (V.alloc (.map #[] 0)) (some V.heap.size) f q 0 := Mp.made.eqv hf0
    rw [← hW2, ← hbs] at this
    exact this.same (fun _ _ => rfl)
  have hmm := @run_makeMap Tryd.prog
  obtain ⟨w3, hrun, hm3, ht3⟩ := hm2.store Tryd.underlying94 (by unfold maxLen; omega) (by omega) (by omega) (.agg #[.int .i64 x0, .int .i64 x1]) e0 e1 e2
  have hF3 : Fr (fun j => j = b) W2 w3 := (Fr.refl (fun j => j = b) W2).drew.trans (Fr.grown ht3.grown (fun j e => by simpa using e.symm)) (fun j e => .inl e)
  have h3 : Sb w3 sb d (l0 + 1) (some b) l1 m1 l2 m2 := h2.same (hF3.block _ h2.lt hne)
  have c3 := h3.cells
  have c1 := h.cells
  have f1 := h.free 1
  have f2 := h.free 2
  rw [el] at hrun c3
  obtain ⟨c10, c11, c12, c13, c14, c15, c16⟩ := c1
  obtain ⟨c30, c31, c32, c33, c34, c35, c36⟩ := c3
  have hlt3 := h3.lt
  have H3 := hide2 h3
  have HM := hide2 hm3
  have HF : Hid (Fr (fun j => j = sb) w w3) := hide2 (hF2.trans hF3 (fun j e => .inr (by omega)))
  have HBB : Hid (w.heap.size ≤ b) := hide2 (by omega)
  rw [el]
  clear h hu h2 h3 hm3 ht3 hF2 hF3 hFU e0 e1 e2 hm2 hf0 hbs hb2 hbV hbW el hs0 hsV
  subst hb
  subst hW2
  subst hV
  subst hU
  have hnil := nilN_yes
  go_enter Tryd.func60, Tryd.ntmps60
  go_wp2
  go_region
  all_goals
    go_wp2
    go_ret
    refine ⟨rfl, _, HBB.out, H3.out, HM.out, HF.out⟩
set_option maxRecDepth 100000 in
set_option maxHeartbeats 4000000 in
theorem addV_some {x0 : ByteArray} {x1 x2 x3 : Int} (h : Sb w sb d l0 m0 l1 (some b) l2 m2) (hm : Mp w (some b) f q k) (hq : q < 1000000000) (hl : l1 < 1000000000) (e0 : f ((l1 + 1 : Nat) : Int) = none) (e1 : f' ((l1 + 1 : Nat) : Int) = some (.agg #[.string x0, .int .i64 x1, .int .i64 x2, .int .i64 x3])) (e2 : ∀ m, m ≠ ((l1 + 1 : Nat) : Int) → f' m = f m) :
    Calls Tryd.prog 57 #[.pointer (some ⟨sb, 3, none⟩), .agg #[.string x0, .int .i64 x1, .int .i64 x2, .int .i64 x3]] w fun e w' => e = .returned (.int .i64 ((l1 + 1 : Nat) : Int)) ∧ Sb w' sb d l0 m0 (l1 + 1) (some b) l2 m2 ∧ Mp w' (some b) f' (q + 1) (k + 1) ∧ Fr (fun j => j = sb ∨ j = b) w w' := by
  have el : ((l1 + 1 : Nat) : Int) = (l1 : Int) + 1 := by omega
  have hlt := h.lt
  obtain ⟨U, hU⟩ : ∃ x, x = (w.setCell ⟨sb, 3, none⟩ (.int .i64 ((l1 : Int) + 1))) := ⟨_, rfl⟩
  have hs0 : U.heap.size = w.heap.size := by rw [hU]; simp
  obtain ⟨V, hV⟩ : ∃ x, x = U.alloc (.cells #[.string x0, .int .i64 x1, .int .i64 x2, .int .i64 x3] 106) := ⟨_, rfl⟩
  obtain ⟨W2, hW2⟩ : ∃ x, x = V := ⟨_, rfl⟩
  have hu : Sb U sb d l0 m0 (l1 + 1) (some b) l2 m2 := by
    have a := h
    have := a.set.2.2.1 (l1 + 1)
    rw [el, ← hU] at this
    exact this
  have hFU : Fr (fun j => j = sb) w U := by
    rw [hU]
    exact Fr.setCell (p := ⟨sb, 3, none⟩) (Fr.refl (fun j => j = sb) _) (.inl rfl) _
  have hbV : Below U.heap.size U V := by rw [hV]; exact (Below.refl _ _).alloc (Nat.le_refl _) _
  have hsV : V.heap.size = U.heap.size + 1 := by rw [hV]; simp
  have hbW : Below V.heap.size V W2 := by rw [hW2]; exact Below.refl _ _
  have hb2 : Below U.heap.size U W2 := hbV.trans ⟨hbW.os, hbW.tape, hbW.output, hbW.size, fun j hj => hbW.block j (by omega)⟩
  have h2 : Sb W2 sb d l0 m0 (l1 + 1) (some b) l2 m2 := hu.same (hb2.block _ hu.lt)
  have hF2 : Fr (fun j => j = sb) w W2 := hFU.trans (G := fun _ => False) (Fr.below hb2) (fun j e => e.elim)
  have hne : sb ≠ b := h.ne (hm.kind rfl)
  have hm2 : Mp W2.drew (some b) f q k := hm.fr (hF2.trans (G := fun _ => False) (Fr.refl _ W2).drew (fun j e => e.elim)) (fun j e q => hne (by cases e; exact q.symm))
  obtain ⟨w3, hrun, hm3, ht3⟩ := hm2.store Tryd.underlying97 (by unfold maxLen; omega) (by omega) (by omega) (.agg #[.string x0, .int .i64 x1, .int .i64 x2, .int .i64 x3]) e0 e1 e2
  have hF3 : Fr (fun j => j = b) W2 w3 := (Fr.refl (fun j => j = b) W2).drew.trans (Fr.grown ht3.grown (fun j e => by simpa using e.symm)) (fun j e => .inl e)
  have h3 : Sb w3 sb d l0 m0 (l1 + 1) (some b) l2 m2 := h2.same (hF3.block _ h2.lt hne)
  have c3 := h3.cells
  have c1 := h.cells
  have f3 := h.free 3
  have f4 := h.free 4
  rw [el] at hrun c3
  obtain ⟨c10, c11, c12, c13, c14, c15, c16⟩ := c1
  obtain ⟨c30, c31, c32, c33, c34, c35, c36⟩ := c3
  have hlt3 := h3.lt
  have H3 := hide2 h3
  have HM := hide2 hm3
  have HF : Hid (Fr (fun j => j = sb ∨ j = b) w w3) := hide2 ((hF2.mono (G := fun j => j = sb ∨ j = b) (fun _ _ e => .inl e)).trans hF3 (fun j e => .inl (.inr e)))
  rw [el]
  clear h hu h2 h3 hm3 ht3 hF2 hF3 hFU e0 e1 e2 hm2 hm hb2 hbV hbW el hs0 hsV
  skip
  subst hW2
  subst hV
  subst hU
  have hnil := nilV_no b
  go_enter Tryd.func57, Tryd.ntmps57
  go_wp2
  go_region
  all_goals
    go_wp2
    go_ret
    refine ⟨rfl, H3.out, HM.out, HF.out⟩
set_option maxRecDepth 100000 in
set_option maxHeartbeats 4000000 in
theorem addV_none {x0 : ByteArray} {x1 x2 x3 : Int} (h : Sb w sb d l0 m0 l1 none l2 m2) (hf0 : ∀ n, f n = none) (hq : q < 1000000000) (hl : l1 < 1000000000) (e0 : f ((l1 + 1 : Nat) : Int) = none) (e1 : f' ((l1 + 1 : Nat) : Int) = some (.agg #[.string x0, .int .i64 x1, .int .i64 x2, .int .i64 x3])) (e2 : ∀ m, m ≠ ((l1 + 1 : Nat) : Int) → f' m = f m) :
    Calls Tryd.prog 57 #[.pointer (some ⟨sb, 3, none⟩), .agg #[.string x0, .int .i64 x1, .int .i64 x2, .int .i64 x3]] w fun e w' => e = .returned (.int .i64 ((l1 + 1 : Nat) : Int)) ∧ ∃ b, w.heap.size ≤ b ∧ Sb w' sb d l0 m0 (l1 + 1) (some b) l2 m2 ∧ Mp w' (some b) f' (q + 1) 1 ∧ Fr (fun j => j = sb) w w' := by
  have el : ((l1 + 1 : Nat) : Int) = (l1 : Int) + 1 := by omega
  have hlt := h.lt
  obtain ⟨U, hU⟩ : ∃ x, x = ((w.setCell ⟨sb, 4, none⟩ (.map (some (w.heap.size + 1)))).setCell ⟨sb, 3, none⟩ (.int .i64 ((l1 : Int) + 1))) := ⟨_, rfl⟩
  have hs0 : U.heap.size = w.heap.size := by rw [hU]; simp
  obtain ⟨V, hV⟩ : ∃ x, x = U.alloc (.cells #[.string x0, .int .i64 x1, .int .i64 x2, .int .i64 x3] 106) := ⟨_, rfl⟩
  obtain ⟨W2, hW2⟩ : ∃ x, x = V.alloc (.map #[] 0) := ⟨_, rfl⟩
  have hu : Sb U sb d l0 m0 (l1 + 1) (some (w.heap.size + 1)) l2 m2 := by
    have a := h.set.2.2.2.1 (some (w.heap.size + 1))
    have := a.set.2.2.1 (l1 + 1)
    rw [el, ← hU] at this
    exact this
  have hFU : Fr (fun j => j = sb) w U := by
    rw [hU]
    exact Fr.setCell (p := ⟨sb, 3, none⟩) (Fr.setCell (p := ⟨sb, 4, none⟩) (Fr.refl (fun j => j = sb) _) (.inl rfl) _) (.inl rfl) _
  have hbV : Below U.heap.size U V := by rw [hV]; exact (Below.refl _ _).alloc (Nat.le_refl _) _
  have hsV : V.heap.size = U.heap.size + 1 := by rw [hV]; simp
  have hbW : Below V.heap.size V W2 := by rw [hW2]; exact (Below.refl _ _).alloc (Nat.le_refl _) _
  have hb2 : Below U.heap.size U W2 := hbV.trans ⟨hbW.os, hbW.tape, hbW.output, hbW.size, fun j hj => hbW.block j (by omega)⟩
  have h2 : Sb W2 sb d l0 m0 (l1 + 1) (some (w.heap.size + 1)) l2 m2 := hu.same (hb2.block _ hu.lt)
  have hF2 : Fr (fun j => j = sb) w W2 := hFU.trans (G := fun _ => False) (Fr.below hb2) (fun j e => e.elim)
  obtain ⟨b, hb⟩ : ∃ b, b = w.heap.size + 1 := ⟨_, rfl⟩
  rw [← hb] at h2
  have hne : sb ≠ b := by omega
  have hbs : b = V.heap.size := by omega
  have hm2 : Mp W2.drew (some b) f q 0 := by
    have : Mp (V.alloc (.map #[] 0)) (some V.heap.size) f q 0 := Mp.made.eqv hf0
    rw [← hW2, ← hbs] at this
    exact this.same (fun _ _ => rfl)
  have hmm := @run_makeMap Tryd.prog
  obtain ⟨w3, hrun, hm3, ht3⟩ := hm2.store Tryd.underlying97 (by unfold maxLen; omega) (by omega) (by omega) (.agg #[.string x0, .int .i64 x1, .int .i64 x2, .int .i64 x3]) e0 e1 e2
  have hF3 : Fr (fun j => j = b) W2 w3 := (Fr.refl (fun j => j = b) W2).drew.trans (Fr.grown ht3.grown (fun j e => by simpa using e.symm)) (fun j e => .inl e)
  have h3 : Sb w3 sb d l0 m0 (l1 + 1) (some b) l2 m2 := h2.same (hF3.block _ h2.lt hne)
  have c3 := h3.cells
  have c1 := h.cells
  have f3 := h.free 3
  have f4 := h.free 4
  rw [el] at hrun c3
  obtain ⟨c10, c11, c12, c13, c14, c15, c16⟩ := c1
  obtain ⟨c30, c31, c32, c33, c34, c35, c36⟩ := c3
  have hlt3 := h3.lt
  have H3 := hide2 h3
  have HM := hide2 hm3
  have HF : Hid (Fr (fun j => j = sb) w w3) := hide2 (hF2.trans hF3 (fun j e => .inr (by omega)))
  have HBB : Hid (w.heap.size ≤ b) := hide2 (by omega)
  rw [el]
  clear h hu h2 h3 hm3 ht3 hF2 hF3 hFU e0 e1 e2 hm2 hf0 hbs hb2 hbV hbW el hs0 hsV
  subst hb
  subst hW2
  subst hV
  subst hU
  have hnil := nilV_yes
  go_enter Tryd.func57, Tryd.ntmps57
  go_wp2
  go_region
  all_goals
    go_wp2
    go_ret
    refine ⟨rfl, _, HBB.out, H3.out, HM.out, HF.out⟩
end
end Go.Proofs.YtfhcphgjaobnoaaDoor
