/-
  The list in memory.
-/
import Derived.Test.YtopihgdbfhiejaaDoorSa1
import Derived.Test.YtopihgdbfhiejaaDoorSaB
import Derived.Test.YtopihgdbfhiejaaDoorHaS
import Derived.Test.YtopihgdbfhiejaaDoorC9
import Derived.Maps.Views
import Derived.Lib.SliceRun
set_option linter.unusedVariables false
set_option linter.unusedSimpArgs false
namespace Go.Proofs.YtopihgdbfhiejaaDoor
open Go.RowKit Go.Maps

def twL (t : Tw) : List Value := [.int .u8 (kb t.k 0), .int .u8 (kb t.k 1), .int .u8 (kb t.k 2), .int .u8 (kb t.k 3), .int .u8 (kb t.k 4), .int .u8 (kb t.k 5), .int .u8 (kb t.k 6), .int .u8 (kb t.k 7), .int .u8 (kb t.k 8), .int .u8 (kb t.k 9), .int .u8 (kb t.k 10), .int .u8 (kb t.k 11), .int .u8 (kb t.k 12), .int .u8 (kb t.k 13), .int .u8 (kb t.k 14), .int .u8 (kb t.k 15), .int .u8 (kb t.k 16), .int .i64 t.r,
  .int .i64 (t.cs 0 : Nat), .int .i64 (t.cs 1 : Nat), .int .i64 (t.cs 2 : Nat), .int .i64 (t.cs 3 : Nat), .int .i64 (t.cs 4 : Nat), .int .i64 (t.cs 5 : Nat), .int .i64 (t.cs 6 : Nat), .int .i64 (t.cs 7 : Nat),
  .int .i64 (t.fs 0 : Nat), .int .i64 (t.fs 1 : Nat), .int .i64 (t.fs 2 : Nat), .int .i64 (t.fs 3 : Nat), .int .i64 (t.fs 4 : Nat), .int .i64 (t.fs 5 : Nat), .int .i64 (t.fs 6 : Nat), .int .i64 (t.fs 7 : Nat)]
theorem twL_cs (t : Tw) {l : Nat} (hl : l < 8) : (twL t)[18 + l]? = some (.int .i64 (t.cs l : Nat)) := by
  rcases (show l = 0 ∨ l = 1 ∨ l = 2 ∨ l = 3 ∨ l = 4 ∨ l = 5 ∨ l = 6 ∨ l = 7 by omega) with rfl | rfl | rfl | rfl | rfl | rfl | rfl | rfl <;> rfl
theorem twL_fs (t : Tw) {l : Nat} (hl : l < 8) : (twL t)[26 + l]? = some (.int .i64 (t.fs l : Nat)) := by
  rcases (show l = 0 ∨ l = 1 ∨ l = 2 ∨ l = 3 ∨ l = 4 ∨ l = 5 ∨ l = 6 ∨ l = 7 by omega) with rfl | rfl | rfl | rfl | rfl | rfl | rfl | rfl <;> rfl
theorem twL_set (t : Tw) {l : Nat} (x : Nat) (hl : l < 8) : (twL t).set (26 + l) (.int .i64 (x : Nat)) = twL { t with fs := upd t.fs l x } := by
  rcases (show l = 0 ∨ l = 1 ∨ l = 2 ∨ l = 3 ∨ l = 4 ∨ l = 5 ∨ l = 6 ∨ l = 7 by omega) with rfl | rfl | rfl | rfl | rfl | rfl | rfl | rfl <;> rfl
theorem twL_ghost (t : Tw) (l : Nat) (f : Nat → Nat) : twL { t with lk := l, ns := f } = twL t := rfl
theorem flat34 (l : List Tw) (i j : Nat) (t : Tw) (hi : l[i]? = some t) (hj : j < 34) : (l.flatMap twL)[i * 34 + j]? = (twL t)[j]? := by
  induction l generalizing i with
  | nil => simp at hi
  | cons y ys ih =>
    rw [List.flatMap_cons]
    cases i with
    | zero =>
      simp at hi; subst hi
      rw [List.getElem?_append_left (by show 0 * 34 + j < 34; omega), Nat.zero_mul, Nat.zero_add]
    | succ i =>
      rw [List.getElem?_append_right (by show 34 ≤ _; omega)]
      rw [show (i + 1) * 34 + j - (twL y).length = i * 34 + j by show _ - 34 = _; omega]
      exact ih i (by simpa using hi)
theorem flat34_set (l : List Tw) (i j : Nat) (t t' : Tw) (v : Value) (hi : l[i]? = some t) (hj : j < 34) (ht : (twL t).set j v = twL t') : (l.flatMap twL).set (i * 34 + j) v = (l.set i t').flatMap twL := by
  induction l generalizing i with
  | nil => simp at hi
  | cons y ys ih =>
    cases i with
    | zero =>
      simp at hi; subst hi
      rw [List.set_cons_zero, List.flatMap_cons, List.flatMap_cons, List.set_append, if_pos (by show 0 * 34 + j < 34; omega), Nat.zero_mul, Nat.zero_add, ht]
    | succ i =>
      rw [List.set_cons_succ, List.flatMap_cons, List.flatMap_cons, List.set_append, if_neg (by show ¬ (i + 1) * 34 + j < 34; omega)]
      rw [show (i + 1) * 34 + j - (twL y).length = i * 34 + j by show _ - 34 = _; omega, ih i (by simpa using hi)]
theorem flat34_same (l : List Tw) (i : Nat) (t t' : Tw) (hi : l[i]? = some t) (ht : twL t' = twL t) : (l.set i t').flatMap twL = l.flatMap twL := by
  induction l generalizing i with
  | nil => simp at hi
  | cons y ys ih =>
    cases i with
    | zero => simp at hi; subst hi; rw [List.set_cons_zero, List.flatMap_cons, List.flatMap_cons, ht]
    | succ i => rw [List.set_cons_succ, List.flatMap_cons, List.flatMap_cons, ih i (by simpa using hi)]

/-- The list's own cells. -/
def Lk3 (w : World) (lb d : Nat) (tv sv : Value) : Prop := w.heap[lb]? = some (.cells #[.pointer (some ⟨d, 0, none⟩), tv, sv] 77 (0, 0))
section
variable {w w' : World} {lb d : Nat} {tv sv : Value}
theorem Lk3.lt (h : Lk3 w lb d tv sv) : lb < w.heap.size := (Array.getElem?_eq_some_iff.1 h).1
theorem Lk3.cells (h : Lk3 w lb d tv sv) : w.cell? ⟨lb, 0, none⟩ = some (.pointer (some ⟨d, 0, none⟩)) ∧ w.cell? ⟨lb, 1, none⟩ = some tv ∧ w.cell? ⟨lb, 2, none⟩ = some sv := by
  unfold Lk3 at h
  refine ⟨?_, ?_, ?_⟩ <;> (rw [Go.Joins.cell_of_block h]; rfl)
theorem Lk3.free (h : Lk3 w lb d tv sv) (i : Nat) : w.frozen? ⟨lb, i, none⟩ = false := Go.Joins.unfrozen_of_block h i
theorem Lk3.same (h : Lk3 w lb d tv sv) (e : w'.heap[lb]? = w.heap[lb]?) : Lk3 w' lb d tv sv := e.trans h
theorem Lk3.setT (h : Lk3 w lb d tv sv) (v : Value) : Lk3 (w.setCell ⟨lb, 1, none⟩ v) lb d v sv := by
  unfold Lk3 at *
  rw [Go.Joins.block_setCell h]; rfl
theorem Lk3.setS (h : Lk3 w lb d tv sv) (v : Value) : Lk3 (w.setCell ⟨lb, 2, none⟩ v) lb d tv v := by
  unfold Lk3 at *
  rw [Go.Joins.block_setCell h]; rfl
end

abbrev tvv (gt n tc : Nat) : Value := .slice (some ⟨gt, 0, none⟩) n tc
/-- A list in memory: its own blocks are among K's. -/
structure Lm (w : World) (K : Nat → Prop) (lb d g gt tc : Nat) (sv : Value) (T : List Bool) (N : List Int) (m : Int) (F : List Nat) (s : Sl) : Prop where
  aw : Aw w d g T N m F
  lk : Lk3 w lb d (tvv gt s.tw.length tc) sv
  tw : w.ownsRow 0 74 34 (tvv gt s.tw.length tc) s.tw.length (s.tw.flatMap twL)
  sp : Hr w 0 sv s.sp
  tab : Tab w
  k0 : ¬ K 0
  kk : ∀ j, (j = lb ∨ j = d ∨ j = g ∨ j = gt ∨ sv.ownBlock = some j) → K j
  kl : ∀ j, K j → j < w.heap.size

section
variable {w w' : World} {K : Nat → Prop} {lb d g gt tc : Nat} {sv : Value} {T : List Bool} {N : List Int} {m : Int} {F : List Nat} {s : Sl}
theorem Lm.ne (h : Lm w K lb d g gt tc sv T N m F s) : (lb ≠ d ∧ lb ≠ g ∧ lb ≠ gt ∧ d ≠ g ∧ d ≠ gt ∧ g ≠ gt) ∧ ∀ j, sv.ownBlock = some j → j ≠ lb ∧ j ≠ d ∧ j ≠ g ∧ j ≠ gt := by
  have h1 := h.lk
  have h2 := h.aw.ab.2.2
  have h3 := h.aw.nb
  obtain ⟨c4, f4, h4⟩ := Go.Lib.ownsRow_kind h.tw gt rfl
  unfold Lk3 at h1
  unfold Nb at h3
  refine ⟨⟨?_, ?_, ?_, h.aw.ne, ?_, ?_⟩, fun j hj => ?_⟩
  · rintro rfl; rw [h1] at h2; simp at h2
  · rintro rfl; rw [h1] at h3; simp at h3
  · rintro rfl; rw [h1] at h4; simp at h4
  · rintro rfl; rw [h2] at h4; simp at h4
  · rintro rfl; rw [h3] at h4; simp at h4
  · obtain ⟨c6, f6, h6⟩ := h.sp.kind hj
    refine ⟨?_, ?_, ?_, ?_⟩
    · rintro rfl; rw [h1] at h6; simp at h6
    · rintro rfl; rw [h2] at h6; simp at h6
    · rintro rfl; rw [h3] at h6; simp at h6
    · rintro rfl; rw [h4] at h6; simp at h6
/-- What is done elsewhere leaves the list as it is. -/
theorem Lm.keep {G : Nat → Prop} (h : Lm w K lb d g gt tc sv T N m F s) (k : Fr G w w') (hG : ∀ j, K j → ¬ G j) (h0 : ¬ G 0) : Lm w' K lb d g gt tc sv T N m F s :=
  ⟨h.aw.fr k (hG d (h.kk d (by simp))) (hG g (h.kk g (by simp))), h.lk.same (k.block lb h.lk.lt (hG lb (h.kk lb (by simp)))), hrow_fr h.tw k (fun j e => hG j (h.kk j (by cases e; simp))),
   hrow_fr h.sp k (fun j e => hG j (h.kk j (by simp [e]))), h.tab.fr k h0, h.k0, h.kk, fun j hj => Nat.lt_of_lt_of_le (h.kl j hj) k.size⟩
theorem Lm.below (h : Lm w K lb d g gt tc sv T N m F s) (hb : Below w.heap.size w w') : Lm w' K lb d g gt tc sv T N m F s :=
  h.keep (Fr.below (F := fun _ => False) hb) (fun _ _ => id) id
/-- What was done to the arena alone. -/
theorem Lm.arena {T' : List Bool} {N' : List Int} {m' : Int} {F' : List Nat} (h : Lm w K lb d g gt tc sv T N m F s) (k : Fr (fun j => j = d ∨ j = g) w w') (ha : Aw w' d g T' N' m' F') : Lm w' K lb d g gt tc sv T' N' m' F' s := by
  obtain ⟨⟨n1, n2, n3, n4, n5, n6⟩, n7⟩ := h.ne
  refine ⟨ha, h.lk.same (k.block lb h.lk.lt (by simp; exact ⟨n1, n2⟩)), hrow_fr h.tw k (fun j e => ?_), hrow_fr h.sp k (fun j e => ?_), h.tab.fr k ?_, h.k0, h.kk, fun j hj => Nat.lt_of_lt_of_le (h.kl j hj) k.size⟩
  · cases e; simp; exact ⟨Ne.symm n5, Ne.symm n6⟩
  · have := n7 j e; simp; exact ⟨this.2.1, this.2.2.1⟩
  · rintro (e | e)
    · exact h.k0 (h.kk 0 (by simp [e]))
    · exact h.k0 (h.kk 0 (by simp [e]))
/-- The same list, other names of what is not in memory. -/
theorem Lm.ghost {s' : Sl} (h : Lm w K lb d g gt tc sv T N m F s) (e1 : s'.tw.length = s.tw.length) (e2 : s'.tw.flatMap twL = s.tw.flatMap twL) (e3 : s'.sp = s.sp) : Lm w K lb d g gt tc sv T N m F s' :=
  ⟨h.aw, by rw [e1]; exact h.lk, by rw [e1, e2]; exact h.tw, by rw [e3]; exact h.sp, h.tab, h.k0, h.kk, h.kl⟩

theorem at_some {i : Nat} (hi : i < s.tw.length) : s.tw[i]? = some (s.at i) := by
  simp [Sl.at, List.getD, List.getElem?_eq_getElem hi]
theorem Lm.cell (h : Lm w K lb d g gt tc sv T N m F s) {i j : Nat} (hi : i < s.tw.length) (hj : j < 34) : w.cell? ⟨gt, i * 34 + j, none⟩ = (twL (s.at i))[j]? := by
  rw [World.ownsRow.cellAt h.tw _ (by omega), flat34 _ _ _ _ (at_some hi) hj]
theorem Lm.csAt (h : Lm w K lb d g gt tc sv T N m F s) {i l : Nat} (hi : i < s.tw.length) (hl : l < 8) : w.cell? ⟨gt, i * 34 + 18 + l, none⟩ = some (.int .i64 ((s.at i).cs l : Nat)) := by
  rw [Nat.add_assoc, h.cell hi (by omega), twL_cs _ hl]
theorem Lm.fsAt (h : Lm w K lb d g gt tc sv T N m F s) {i l : Nat} (hi : i < s.tw.length) (hl : l < 8) : w.cell? ⟨gt, i * 34 + 26 + l, none⟩ = some (.int .i64 ((s.at i).fs l : Nat)) := by
  rw [Nat.add_assoc, h.cell hi (by omega), twL_fs _ hl]
theorem Lm.cap (h : Lm w K lb d g gt tc sv T N m F s) : s.tw.length ≤ tc ∧ tc ≤ maxLen := by
  rcases h.tw.2 with ⟨e, _⟩ | ⟨g', cap', cur, e, _, _, h1, h2, _⟩
  · cases e
  · cases e; exact ⟨h1, h2⟩

/-! ### Small functions -/
set_option maxHeartbeats 400000 in
theorem isNone_nil (w : World) : Calls Tryd.prog 34 #[.pointer none] w fun e w' => e = .returned (.bool true) ∧ w' = w := by
  go_enter Tryd.func34, Tryd.ntmps34
  go_wp2
  go_ret
  exact ⟨rfl, rfl⟩
set_option maxHeartbeats 400000 in
theorem Lm.isNone (h : Lm w K lb d g gt tc sv T N m F s) (hn : 1 ≤ s.tw.length) : Calls Tryd.prog 34 #[.pointer (some ⟨lb, 0, none⟩)] w fun e w' => e = .returned (.bool false) ∧ w' = w := by
  obtain ⟨c0, c1, c2⟩ := h.lk.cells
  have hd : ((s.tw.length : Int) == 0) = false := by rw [beq_eq_false_iff_ne]; omega
  have hd2 : ¬ s.tw.length = 0 := by omega
  clear h
  generalize s.tw.length = n at *
  go_enter Tryd.func34, Tryd.ntmps34
  go_wp2
  go_ret
  exact ⟨rfl, rfl⟩
set_option maxHeartbeats 400000 in
theorem mayBe_any (k : ByteArray) (hk : k.size ≤ maxLen) (w : World) : Calls Tryd.prog 49 #[.string k] w fun e w' => e = .returned (.bool (good k)) ∧ w' = w := by
  unfold good
  unfold maxLen at hk
  by_cases h1 : 1 ≤ k.size
  · by_cases h2 : k.size ≤ 16
    · have d1 : decide ((1 : Int) ≤ (k.size : Int)) = true := by simp; omega
      have d2 : decide ((k.size : Int) ≤ 16) = true := by simp; omega
      have e : (decide (1 ≤ k.size) && decide (k.size ≤ 16)) = true := by simp; omega
      rw [e]
      go_enter Tryd.func49, Tryd.ntmps49
      go_wp2
      go_ret
      exact ⟨rfl, rfl⟩
    · have d1 : decide ((1 : Int) ≤ (k.size : Int)) = true := by simp; omega
      have d2 : decide ((k.size : Int) ≤ 16) = false := by simp; omega
      have e : (decide (1 ≤ k.size) && decide (k.size ≤ 16)) = false := by simp; omega
      rw [e]
      go_enter Tryd.func49, Tryd.ntmps49
      go_wp2
      go_ret
      exact ⟨rfl, rfl⟩
  · have d1 : decide ((1 : Int) ≤ (k.size : Int)) = false := by simp; omega
    have e : (decide (1 ≤ k.size) && decide (k.size ≤ 16)) = false := by simp; omega
    rw [e]
    go_enter Tryd.func49, Tryd.ntmps49
    go_wp2
    go_ret
    exact ⟨rfl, rfl⟩

theorem tk_of {c : Nat} (h : T.getD c false = true) : tk T (c : Int) = true := by
  unfold tk
  rw [show (c : Int).toNat = c from rfl, h]
  simp

set_option maxRecDepth 100000 in
set_option maxHeartbeats 2000000 in
/-- load: the number of a tower's cell. -/
theorem Lm.load (h : Lm w K lb d g gt tc sv T N m F s) {i l : Nat} (hi : i < s.tw.length) (hl : l < 8) (ht : T.getD ((s.at i).cs l) false = true) (hm : 0 ≤ m ∧ m < 4611686018427387904) :
    Calls Tryd.prog 54 #[.pointer (some ⟨lb, 0, none⟩), .int .i64 (i : Int), .int .i64 (l : Int)] w fun e w' => e = .returned (.int .u64 (N.getD ((s.at i).cs l) 0)) ∧ Lm w' K lb d g gt tc sv T N (m + 1) F s ∧ Fr (fun j => j = d ∨ j = g) w w' := by
  obtain ⟨c0, c1, c2⟩ := h.lk.cells
  have cc := h.csAt hi hl
  obtain ⟨hc1, hc2⟩ := h.cap
  have hFd : Fr (fun _ => False) w w.drew := (Fr.refl _ w).drew
  have hd := h.keep hFd (fun _ _ e => e) (fun e => e)
  have HL := hide2 (Load_any hd.aw ((s.at i).cs l : Int) hm)
  have H := hide2 hd
  have hlt := h.lk.lt
  have hTl := h.aw.len
  clear h hd
  have hn1 : (i : Int) < (s.tw.length : Int) := by omega
  have hn2 : (l : Int) < 8 := by omega
  generalize hN : s.tw.length = n at *
  go_enter Tryd.func54, Tryd.ntmps54
  go_wp2
  go_region_with (go_at_call 77; refine HL.out.mono ?_; rintro e w1 ⟨v, x, rfl, hD⟩)
  all_goals
    obtain ⟨e1, e2, hA⟩ := hD.yes (tk_of ht)
    have ea : act 1 0 0 (N.getD (((s.at i).cs l : Int)).toNat 0) = (N.getD ((s.at i).cs l) 0, N.getD ((s.at i).cs l) 0) := by simp [act]
    rw [ea] at e1 hA
    have hlt2 := getD_lt ht
    rw [show N.set (((s.at i).cs l : Int)).toNat (N.getD ((s.at i).cs l) 0) = N from set_self N _ (by omega)] at hA
    have hX := H.out.arena hD.fr hA
    have HX := hide2 hX
    have HF := hide2 hD.fr
    clear hX hA HL hD ea H
    simp only at e1
    subst e1 e2
    go_wp2
    go_ret
    exact ⟨rfl, HX.out, (hFd.mono (G := fun j => j = d ∨ j = g) (fun _ _ e => e.elim)).trans HF.out (fun j e => .inl e)⟩

end
end Go.Proofs.YtopihgdbfhiejaaDoor
