/-
  The log with its disk; refuses, note, rests, Flushed, goOn. (Printed by gen_w6.py.)
-/
import Derived.Test.YtgifcgniphncdaaGreatDoorPk28
import Derived.Test.YtgifcgniphncdaaGreatDoorPk18
import Derived.Maps.AppendAt
import Derived.BigRegion
import Derived.Test.YtgifcgniphncdaaGreatDoorPk11
set_option linter.unusedVariables false
set_option linter.unusedSimpArgs false
namespace Go.Proofs.YtgifcgniphncdaaGreatDoor
open Go.RowKit Go.Maps

/-- Bodies that wait: a row of the log's own, each body in a block of the log's own. -/
def Wt (w : World) (A : Nat → Prop) (v : Value) (bs : List (List Int)) : Prop :=
  ∃ cs, w.ownsRow 0 40 1 v bs.length cs ∧ (∀ g, v.ownBlock = some g → A g) ∧ ∀ (i : Nat) (x : List Int), bs[i]? = some x → ∃ u, cs[i]? = some u ∧ Own w 0 u x ∧ Byt x ∧ ∀ g, u.ownBlock = some g → A g
section
variable {w w' : World} {A : Nat → Prop} {v : Value} {bs : List (List Int)}
theorem Wt.nil (w : World) (A : Nat → Prop) : Wt w A (.slice none 0 0) [] := ⟨[], World.ownsRow_nil _ _ _ _, (fun g e => by cases e), fun i x e => by cases e⟩
theorem Wt.same (h : Wt w A v bs) (hs : ∀ j, A j → w'.heap[j]? = w.heap[j]?) : Wt w' A v bs := by
  obtain ⟨cs, h1, h2, h3⟩ := h
  refine ⟨cs, row_same h1 (fun j e => hs j (h2 j e)), h2, fun i x e => ?_⟩
  obtain ⟨u, q1, q2, q3, q4⟩ := h3 i x e
  exact ⟨u, q1, row_same q2 (fun j e => hs j (q4 j e)), q3, q4⟩
theorem Wt.mono {A' : Nat → Prop} (h : Wt w A v bs) (hA : ∀ j, j < w.heap.size → A j → A' j) : Wt w A' v bs := by
  obtain ⟨cs, h1, h2, h3⟩ := h
  refine ⟨cs, h1, fun g e => hA g (World.ownsRow.lt h1 g e).2 (h2 g e), fun i x e => ?_⟩
  obtain ⟨u, q1, q2, q3, q4⟩ := h3 i x e
  exact ⟨u, q1, q2, q3, fun g e => hA g (World.ownsRow.lt q2 g e).2 (q4 g e)⟩
theorem Wt.pl (h : Wt w A v bs) : ∃ ao cap, v = .slice ao bs.length cap ∧ Pl w ao bs.length cap bs := by
  obtain ⟨cs, h1, h2, h3⟩ := h
  rcases h1.2 with ⟨rfl, h0⟩ | ⟨g, cap, cur, rfl, hg, hh, hn, hm, hs, ht⟩
  · exact ⟨none, 0, by rw [h0], by rw [h0]; exact ⟨h0, Nat.le_refl _, Nat.zero_le _, fun h => absurd h (by omega)⟩⟩
  · refine ⟨_, cap, rfl, rfl, hn, hm, fun hl => ⟨g, 0, rfl, (Array.getElem?_eq_some_iff.1 hh).1, fun i hi => ?_⟩⟩
    obtain ⟨x, hx⟩ : ∃ x, bs[i]? = some x := ⟨bs[i], List.getElem?_eq_getElem hi⟩
    obtain ⟨u, q1, q2, q3, q4⟩ := h3 i x hx
    obtain ⟨a, c, rfl, sl, -⟩ := Own.sl q2 q3
    refine ⟨a, x.length, c, ?_, by simpa [List.getD, hx] using sl⟩
    rw [Nat.zero_add, Go.Joins.cell_of_block hh, ← Array.getElem?_toList]
    have e1 : (cur.toList.take (bs.length * 1))[i]? = cs[i]? := by rw [ht]
    rw [List.getElem?_take_of_lt (by omega)] at e1
    rw [e1, q1]
end

/-- Numbers in bounds; N: as many tickets as were given. -/
structure LOk (S : Dsk) (L : Lg) (N : Nat) : Prop where
  s0 : 1 ≤ L.seg
  s1 : L.seg ≤ 1099511627776
  s2 : L.over = 0 → L.seg ≤ 1073741924 + S.P.n
  q : L.seq < 18446744073709551616
  st : L.step ≤ 3
  n : L.done + L.grp + L.wait.length ≤ N
  big : N ≤ 1000000
  okb : Okb L.wait
/-- The log at l on the disk at d: A: blocks that are theirs, all from B on. -/
structure PM (w : World) (B : Nat) (A : Nat → Prop) (l d : Nat) (S : Dsk) (L : Lg) (N : Nat) : Prop where
  it : ∃ D v, DV w D d S ∧ Lm w l d v L ∧ Wt w (fun j => A j ∧ ¬ D j ∧ j ≠ l) v L.wait ∧ (∀ j, D j → A j ∧ j ≠ l)
  al : A l
  lo : ∀ j, A j → B ≤ j ∧ j < w.heap.size
  bw : B ≤ w.heap.size
  gl : Gl B w
  ok : LOk S L N

section
variable {w w' : World} {B : Nat} {A D : Nat → Prop} {l d : Nat} {v : Value} {S S' : Dsk} {L L' : Lg} {N : Nat}
/-- What is done elsewhere. -/
theorem PM.keep (h : PM w B A l d S L N) {F : Nat → Prop} (hF : Fr F w w') (hA : ∀ j, A j → ¬ F j) (hB : ∀ j, F j → B ≤ j) : PM w' B A l d S L N := by
  obtain ⟨⟨D, v, h1, h2, h3, h4⟩, h5, h6, h7, h8, h9⟩ := h
  exact ⟨⟨D, v, h1.keep hF (fun j hj => hA j (h4 j hj).1), h2.fr hF (hA l h5), h3.same (fun j hj => hF.block j (h6 j hj.1).2 (hA j hj.1)), h4⟩, h5, fun j hj => ⟨(h6 j hj).1, Nat.lt_of_lt_of_le (h6 j hj).2 hF.size⟩, Nat.le_trans h7 hF.size, h8.on (hF.to (fun k hk e => by have := hB k e; omega) h7), h9⟩
theorem PM.below (h : PM w B A l d S L N) (hb : Below w.heap.size w w') : PM w' B A l d S L N := h.keep (F := fun _ => False) (Fr.below hb) (fun _ _ e => e) (fun _ e => e.elim)
theorem PM.mono (h : PM w B A l d S L N) {A' : Nat → Prop} (hA : ∀ j, A j → A' j) (hl : ∀ j, A' j → B ≤ j ∧ j < w.heap.size) : PM w B A' l d S L N := by
  obtain ⟨⟨D, v, h1, h2, h3, h4⟩, h5, h6, h7, h8, h9⟩ := h
  exact ⟨⟨D, v, h1, h2, h3.mono (fun j _ hj => ⟨hA j hj.1, hj.2⟩), fun j hj => ⟨hA j (h4 j hj).1, (h4 j hj).2⟩⟩, hA l h5, hl, h7, h8, h9⟩
/-- Put together behind a call. -/
theorem PM.put (hA : ∀ j, A j → B ≤ j ∧ j < w.heap.size) (hB : B ≤ w.heap.size) (hal : A l) (hg : Gl B w) (hDA : ∀ j, D j → A j ∧ j ≠ l)
    (hD : DV w' (Land.more D w w') d S') (hl : Lm w' l d v L') (hw : Wt w' (fun j => Land.more A w w' j ∧ ¬ Land.more D w w' j ∧ j ≠ l) v L'.wait) (hF : Fr A w w') (ok : LOk S' L' N) : PM w' B (Land.more A w w') l d S' L' N := by
  refine ⟨⟨_, v, hD, hl, hw, fun j hj => ?_⟩, .inl hal, fun j hj => ?_, Nat.le_trans hB hF.size, hg.on (hF.to (fun k hk e => by have := (hA k e).1; omega) hB), ok⟩
  · rcases hj with hj | hj
    · exact ⟨.inl (hDA j hj).1, (hDA j hj).2⟩
    · exact ⟨.inr hj, fun e => by have := (hA l hal).2; have := hj.1; omega⟩
  · rcases hj with hj | hj
    · exact ⟨(hA j hj).1, Nat.lt_of_lt_of_le (hA j hj).2 hF.size⟩
    · exact ⟨by have := hj.1; omega, hj.2⟩
/-- Bodies that wait are not touched by what is done to the disk and to the log's cells. -/
theorem Wt.over {bs : List (List Int)} (h : Wt w (fun j => A j ∧ ¬ D j ∧ j ≠ l) v bs) (hA : ∀ j, A j → j < w.heap.size) (hF : Fr (fun j => D j ∨ j = l) w w') : Wt w' (fun j => Land.more A w w' j ∧ ¬ Land.more D w w' j ∧ j ≠ l) v bs := by
  have h1 := h.same (w' := w') (fun j hj => hF.block j (hA j hj.1) (fun e => e.elim hj.2.1 hj.2.2))
  refine Wt.mono (A := fun j => A j ∧ ¬ D j ∧ j ≠ l) h1 (fun j _ hj => ⟨.inl hj.1, fun e => ?_, hj.2.2⟩)
  rcases e with e | e
  · exact hj.2.1 e
  · have := hA j hj.1; have := e.1; omega

/-! ### The small functions -/
set_option maxRecDepth 100000 in
theorem walRefuses_any (h : Lm w l d v L) : Calls Tryz.prog 65 #[.pointer (some ⟨l, 0, none⟩)] w fun e w' => e = .returned (.int .i64 L.over) ∧ w' = w := by
  obtain ⟨-, -, -, -, -, -, -, s8⟩ := h.cells
  have hl := h.lt
  clear h
  go_enter Tryz.func65, Tryz.ntmps65
  go_wp2
  go_ret
  exact ⟨rfl, rfl⟩
set_option maxRecDepth 100000 in
theorem walNote_any (h : Lm w l d v L) (x : Int) : Calls Tryz.prog 67 #[.pointer (some ⟨l, 0, none⟩), .int .i64 x] w fun e w' => e = .returned (.int .i64 x) ∧ Lm w' l d v { L with over := x } ∧ Fr (fun j => j = l) w w' := by
  obtain ⟨-, -, -, -, -, -, -, s8⟩ := h.cells
  have hl := h.lt
  have f7 := h.free 7
  have HL : Hid (Lm (w.setCell ⟨l, 7, none⟩ (.int .i64 x)) l d v { L with over := x }) := hid8 ((Go.Joins.block_setCell h _).trans rfl)
  have HF : Hid (Fr (fun j => j = l) w (w.setCell ⟨l, 7, none⟩ (.int .i64 x))) := hid8 (Fr.setCell (F := fun j => j = l) (p := ⟨l, 7, none⟩) (Fr.refl _ w) (.inl rfl) _)
  clear h
  go_enter Tryz.func67, Tryz.ntmps67
  go_wp2
  go_ret
  exact ⟨rfl, HL.out, HF.out⟩
set_option maxRecDepth 100000 in
theorem walRests_any {bs : List (List Int)} (h : Lm w l d v L) (hv : ∃ ao cap, v = .slice ao L.wait.length cap) (hw : L.wait.length ≤ 1000000000) : Calls Tryz.prog 73 #[.pointer (some ⟨l, 0, none⟩)] w fun e w' => e = .returned (.bool L.rests) ∧ w' = w := by
  obtain ⟨-, -, -, s4, s5, -⟩ := h.cells
  have hl := h.lt
  obtain ⟨ao, cap, rfl⟩ := hv
  have HR : Hid (L.rests = (decide (L.step = 0) && decide (L.wait.length = 0))) := hid8 rfl
  generalize L.wait.length = n at *
  generalize L.step = m at *
  generalize L.rests = R at *
  clear h
  by_cases h0 : m = 0
  · subst h0
    by_cases h1 : n = 0
    · subst h1
      go_enter Tryz.func73, Tryz.ntmps73
      go_wp2
      go_ret
      exact ⟨ret8 (by rw [HR.out]; rfl), rfl⟩
    · have e1 : decide (n = 0) = false := by simpa using h1
      have e2 : ((n : Int) == 0) = false := by simp; omega
      have e3 : ¬ (n : Int) = 0 := by omega
      go_enter Tryz.func73, Tryz.ntmps73
      go_wp2
      go_ret
      exact ⟨ret8 (by rw [HR.out]; simp [h1]), rfl⟩
  · have e1 : decide (m = 0) = false := by simpa using h0
    have e2 : ((m : Int) == 0) = false := by simp; omega
    have e3 : ¬ (m : Int) = 0 := by omega
    go_enter Tryz.func73, Tryz.ntmps73
    go_wp2
    go_ret
    exact ⟨ret8 (by rw [HR.out]; simp [h0]), rfl⟩
set_option maxRecDepth 100000 in
theorem walFlushed_any (h : Lm w l d v L) : Calls Tryz.prog 21 #[.pointer (some ⟨l, 0, none⟩)] w fun e w' => e = .returned (.int .i64 (L.done : Int)) ∧ w' = w := by
  obtain ⟨-, -, -, -, -, -, s7, -⟩ := h.cells
  have hl := h.lt
  clear h
  go_enter Tryz.func21, Tryz.ntmps21
  go_wp2
  go_ret
  exact ⟨rfl, rfl⟩
end
end Go.Proofs.YtgifcgniphncdaaGreatDoor

/-
  goOn: the next operation of the group that is under way; Flush. (Printed by gen_w7.py.)
-/
set_option linter.unusedVariables false
set_option linter.unusedSimpArgs false
namespace Go.Proofs.YtgifcgniphncdaaGreatDoor
open Go.RowKit Go.Maps

/-! ### How many operations -/
theorem Dsk.go_n (S : Dsk) (F : Int × PD) (h : S.P.n ≤ F.2.n) : S.P.n ≤ (S.go F).2.P.n := by
  show S.P.n ≤ (lef S.P S.c S.o F).n
  unfold lef
  split
  · exact Int.le_refl _
  · exact h
theorem dsk_app_n (S : Dsk) (s : ByteArray) (xs : List Int) : S.P.n ≤ (S.app s xs).2.P.n := S.go_n _ (app_n S.P s xs).1
theorem dsk_sync_n (S : Dsk) (s : ByteArray) : S.P.n ≤ (S.sync s).2.P.n := S.go_n _ (sync_n S.P s).1
theorem dsk_syncDir_n (S : Dsk) : S.P.n ≤ S.syncDir.2.P.n := S.go_n _ (syncDir_n S.P).1
theorem op_n (L : Lg) (S : Dsk) : S.P.n ≤ (L.op S).2.P.n := by
  unfold Lg.op
  split
  · exact dsk_app_n S _ _
  · split
    · exact dsk_app_n S _ _
    · exact dsk_sync_n S _
theorem LOk.goOn {S : Dsk} {L : Lg} {N : Nat} (h : LOk S L N) (ho : L.over = 0) : LOk (L.op S).2 (L.goOn S) N := by
  obtain ⟨h1, h2, h3, h4, h5, h6, h7, h8⟩ := h
  have hn := op_n L S
  have h3' := h3 ho
  have okm : Okb L.mid.wait := by
    unfold Lg.mid
    split
    · exact fun b hb => by cases hb
    · split <;> exact h8
  have sm : L.mid.seg = L.seg := by unfold Lg.mid; split; rfl; split <;> rfl
  have qm : L.mid.seq < 18446744073709551616 := by
    unfold Lg.mid
    split
    · exact Nat.mod_lt _ (by decide)
    · split
      · exact Nat.mod_lt _ (by decide)
      · exact h4
  have stm : L.mid.step = L.step := by unfold Lg.mid; split; rfl; split <;> rfl
  have dm : L.mid.done = L.done := by unfold Lg.mid; split; rfl; split <;> rfl
  have nm : L.mid.done + L.mid.grp + L.mid.wait.length ≤ N ∧ L.done + L.grp + L.mid.wait.length ≤ N := by
    unfold Lg.mid
    split
    · simp only [List.length_nil]; omega
    · split <;> exact ⟨h6, h6⟩
  unfold Lg.goOn
  split
  · exact ⟨by show 1 ≤ L.mid.seg; omega, by show L.mid.seg ≤ _; omega, fun _ => by show L.mid.seg ≤ _; omega, qm, by show L.mid.step ≤ 3; omega, nm.1, h7, okm⟩
  · split
    · exact ⟨by show 1 ≤ L.mid.seg; omega, by show L.mid.seg ≤ _; omega, fun _ => by show L.mid.seg ≤ _; omega, qm, Nat.zero_le _, by show L.done + L.grp + 0 + L.mid.wait.length ≤ N; omega, h7, okm⟩
    · exact ⟨by show 1 ≤ L.mid.seg; omega, by show L.mid.seg ≤ _; omega, fun _ => by show L.mid.seg ≤ _; omega, qm, by show L.step + 1 ≤ 3; omega, nm.1, h7, okm⟩

section
variable {w w' w1 : World} {B : Nat} {A D : Nat → Prop} {l d : Nat} {v v' : Value} {S S' : Dsk} {L L' : Lg} {N : Nat}
theorem PM.fin (hA : ∀ j, A j → B ≤ j ∧ j < w.heap.size) (hB : B ≤ w.heap.size) (hal : A l) (hg : Gl B w) (hDA : ∀ j, D j → A j ∧ j ≠ l)
    (hd1 : DV w1 (Land.more D w w1) d S') (hf1 : Fr (fun j => D j ∨ j = l) w w1) (hf2 : Fr (fun j => j = l) w1 w') (hl : Lm w' l d v' L')
    (hw : Fr (fun j => D j ∨ j = l) w w' → Wt w' (fun j => Land.more A w w' j ∧ ¬ Land.more D w w' j ∧ j ≠ l) v' L'.wait) (ok : LOk S' L' N) : PM w' B (Land.more A w w') l d S' L' N ∧ Fr A w w' := by
  have hz1 := hf1.size
  have hz2 := hf2.size
  have F0 : Fr (fun j => D j ∨ j = l) w w' := hf1.trans hf2 (fun j e => .inl (.inr e))
  have FA : Fr A w w' := F0.mono (fun j _ e => e.elim (fun e => (hDA j e).1) (fun e => by rw [e]; exact hal))
  refine ⟨PM.put hA hB hal hg hDA ((hd1.keep hf2 (fun j hj e => ?_)).mono (fun j hj => ?_) (more_lt (fun j hj => (hA j (hDA j hj).1).2) F0.size)) hl (hw F0) FA ok, FA⟩
  · rcases hj with hj | hj
    · exact (hDA j hj).2 e
    · have := (hA l hal).2; have := hj.1; omega
  · rcases hj with hj | hj
    · exact .inl hj
    · exact .inr ⟨hj.1, by have := hj.2; omega⟩

theorem op_0 (hs : L.step = 0) : L.op S = S.app (nm8 L.seg) (fras L.seq L.wait) := by unfold Lg.op; simp [hs]
theorem goOn_0e (hs : L.step = 0) (he : (S.app (nm8 L.seg) (fras L.seq L.wait)).1 ≠ 0) : L.goOn S = { { L with seq := (L.seq + L.wait.length) % 18446744073709551616, grp := L.wait.length, wait := [] } with over := (S.app (nm8 L.seg) (fras L.seq L.wait)).1 } := by
  unfold Lg.goOn
  rw [op_0 hs, if_pos he]
  unfold Lg.mid
  simp [hs]
theorem goOn_0s (hs : L.step = 0) (he : (S.app (nm8 L.seg) (fras L.seq L.wait)).1 = 0) : L.goOn S = { { L with seq := (L.seq + L.wait.length) % 18446744073709551616, grp := L.wait.length, wait := [] } with step := 1, over := 0 } := by
  unfold Lg.goOn
  rw [op_0 hs, if_neg (by omega)]
  unfold Lg.mid
  simp [hs]

set_option maxRecDepth 100000 in
set_option maxHeartbeats 4000000 in
theorem walGoOn_0 (h : PM w B A l d S L N) (hs : L.step = 0) (ho : L.over = 0) :
    Calls Tryz.prog 66 #[.pointer (some ⟨l, 0, none⟩)] w fun e w' => e = .returned (.int .i64 (L.op S).1) ∧ PM w' B (Land.more A w w') l d (L.op S).2 (L.goOn S) N ∧ Fr A w w' := by
  obtain ⟨⟨D, v, hD, hl, hw, hDA⟩, hal, hA, hB, hg, ok⟩ := h
  have HOK := hid8 (ok.goOn ho)
  generalize hR0 : L.op S = R0 at HOK ⊢
  generalize hL0 : L.goOn S = L0 at HOK ⊢
  have HR0 := hid8 hR0
  have HL0 := hid8 hL0
  clear hR0 hL0
  obtain ⟨o1, o2, o3, o4, o5, o6, o7, o8⟩ := ok
  have hall := hA l hal
  have hnD : ¬ D l := fun e => (hDA l e).2 rfl
  obtain ⟨s1, s2, s3, s4, s5, s6, s7, s8⟩ := hl.cells
  rw [hs] at s5
  have HA := hid8 hA
  have HG := hid8 hg
  have HW := hid8 hw
  have HDA := hid8 hDA
  have HS := hid8 hs
  obtain ⟨ao, cap, rfl, hpl⟩ := hw.pl
  have bd := below_drew w
  have HD := hid8 (hD.below bd)
  have HL := hid8 (hl.below bd)
  have HG1 := hid8 (hg.on (bd.mono hB))
  have HP := hid8 (hpl.below bd)
  have HO := hid8 o8
  have HN := hid8 hnD
  have hwl : (L.wait.length : Int) ≤ 1000000 := by omega
  have HWR := hid8 (write_any HD.out HL.out HN.out hB HG1.out HP.out HO.out (by omega) (by omega) (by omega) o4)
  clear hD hl hg hw hpl bd hA hnD hs HD HG1 HP HO HN hDA
  go_enter Tryz.func66, Tryz.ntmps66
  go_wp2
  refine wp_region_noPanic ?_
  refine wp_region_held_drew (S := (fun u : World => u.cell? ⟨l, 3, none⟩ = some (.slice ao L.wait.length cap))) (by kernel_rfl) (s4) (fun hHeld => ?_)
  refine wpAnyH_take (i := 0) (oi := { dst := some 10, op := _, type := _, pos := _, after := _, guard := _ }) (v := ?_) rfl (by kernel_rfl) (by kernel_rfl) (by kernel_rfl) (fun _ _ _ h => h) (Or.inl ⟨by rfl, ?_⟩) (by assumption) ?_
  rotate_left 1
  · intro u hSw; obtain s1 := hSw; go_simp; try with_reducible rfl
  try simp only [Act.put, List.setIfInBounds_toArray, List.set_cons_zero, List.set_cons_succ]
  refine wpAnyH_take (i := 1) (oi := { dst := some 11, op := _, type := _, pos := _, after := _, guard := _ }) (v := ?_) rfl (by kernel_rfl) (by kernel_rfl) (by kernel_rfl) (fun _ _ _ h => h) (Or.inl ⟨by rfl, ?_⟩) (by assumption) ?_
  rotate_left 1
  · intro u hSw; obtain s1 := hSw; go_simp; try with_reducible rfl
  try simp only [Act.put, List.setIfInBounds_toArray, List.set_cons_zero, List.set_cons_succ]
  refine wpAnyH_take (i := 2) (oi := { dst := some 12, op := _, type := _, pos := _, after := _, guard := _ }) (v := ?_) rfl (by kernel_rfl) (by kernel_rfl) (by kernel_rfl) (fun _ _ _ h => h) (Or.inl ⟨by rfl, ?_⟩) (by assumption) ?_
  rotate_left 1
  · intro u hSw; obtain s1 := hSw; go_simp; try with_reducible rfl
  try simp only [Act.put, List.setIfInBounds_toArray, List.set_cons_zero, List.set_cons_succ]
  refine wpAnyH_take (i := 3) (oi := { dst := some 13, op := _, type := _, pos := _, after := _, guard := _ }) (v := ?_) rfl (by kernel_rfl) (by kernel_rfl) (by kernel_rfl) (fun _ _ _ h => h) (Or.inl ⟨by rfl, ?_⟩) (by assumption) ?_
  rotate_left 1
  · intro u hSw; obtain s1 := hSw; go_simp; try with_reducible rfl
  try simp only [Act.put, List.setIfInBounds_toArray, List.set_cons_zero, List.set_cons_succ]
  refine wpAnyH_take (i := 4) (oi := { dst := some 14, op := _, type := _, pos := _, after := _, guard := _ }) (v := ?_) rfl (by kernel_rfl) (by kernel_rfl) (by kernel_rfl) (fun _ _ _ h => h) (Or.inl ⟨by rfl, ?_⟩) (by assumption) ?_
  rotate_left 1
  · intro u hSw; obtain s1 := hSw; go_simp; try with_reducible rfl
  try simp only [Act.put, List.setIfInBounds_toArray, List.set_cons_zero, List.set_cons_succ]
  refine wpAnyH_take (i := 5) (oi := { dst := some 15, op := _, type := _, pos := _, after := _, guard := _ }) (v := ?_) rfl (by kernel_rfl) (by kernel_rfl) (by kernel_rfl) (fun _ _ _ h => h) (Or.inl ⟨by rfl, ?_⟩) (by assumption) ?_
  rotate_left 1
  · intro u hSw; obtain s1 := hSw; go_simp; try with_reducible rfl
  try simp only [Act.put, List.setIfInBounds_toArray, List.set_cons_zero, List.set_cons_succ]
  refine wpAnyH_take (i := 6) (oi := { dst := some 16, op := _, type := _, pos := _, after := _, guard := _ }) (v := ?_) rfl (by kernel_rfl) (by kernel_rfl) (by kernel_rfl) (fun _ _ _ h => h) (Or.inl ⟨by rfl, ?_⟩) (by assumption) ?_
  rotate_left 1
  · intro u hSw; obtain s1 := hSw; go_simp; try with_reducible rfl
  try simp only [Act.put, List.setIfInBounds_toArray, List.set_cons_zero, List.set_cons_succ]
  refine wpAnyH_ready (rs := [7]) (by kernel_rfl) (by simp) ?_
  refine AllReadyH.cons (o := { dst := some 17, op := _, type := _, pos := _, after := _, guard := _ }) rfl (fun K hK => ?_) AllReadyH.nil
  go_simp
  refine HWR.out.mono ?_
  rintro e w1 ⟨rfl, hd1, hl1, hf1⟩
  have HD1 := hid8 hd1
  have HL1 := hid8 hl1
  have HF1 : Hid (Fr (fun j => D j ∨ j = l) w w1) := hid8 (((Fr.refl _ w).drewN 1).trans hf1 (fun j e => .inl e))
  have hz1 : w.heap.size ≤ w1.heap.size := hf1.size
  clear hd1 hl1 hf1 HWR
  go_wp2_with fail
  refine hK.out _ _ (HL1.out.cells.2.2.2.1) (fun hHeld => ?_)
  clear hK K
  try simp only [Act.put, List.setIfInBounds_toArray, List.set_cons_zero, List.set_cons_succ]
  refine wpAnyH_take (i := 8) (oi := { dst := some 3, op := _, type := _, pos := _, after := _, guard := _ }) (v := ?_) rfl (by kernel_rfl) (by kernel_rfl) (by kernel_rfl) (fun _ _ _ h => h) (Or.inl ⟨by rfl, ?_⟩) (by assumption) ?_
  rotate_left 1
  · intro u hSw; obtain s1 := hSw; go_simp; try with_reducible rfl
  try simp only [Act.put, List.setIfInBounds_toArray, List.set_cons_zero, List.set_cons_succ]
  refine wpAnyH_done (by kernel_rfl) ?_ _
  refine NoPanic.normal ?_
  obtain ⟨t1, t2, t3, t4, t5, t6, t7, t8⟩ := HL1.out.cells
  rw [HS.out] at t5
  have hll := HL1.out.lt
  have f5 := HL1.out.free 5
  have f3 := HL1.out.free 3
  generalize hR : S.app (nm8 L.seg) (fras L.seq L.wait) = R at *
  have HR := hid8 hR
  clear hR
  obtain ⟨x, S1⟩ := R
  have HL2 : Hid (Lm ((w1.setCell ⟨l, 5, none⟩ (.int .i64 (L.wait.length : Int))).setCell ⟨l, 3, none⟩ (.slice none 0 0)) l d (.slice none 0 0) { L with seq := (L.seq + L.wait.length) % 18446744073709551616, grp := L.wait.length, wait := [] }) := hid8 ((Go.Joins.block_setCell ((Go.Joins.block_setCell HL1.out _).trans rfl) _).trans rfl)
  have HF2 : Hid (Fr (fun j => j = l) w1 ((w1.setCell ⟨l, 5, none⟩ (.int .i64 (L.wait.length : Int))).setCell ⟨l, 3, none⟩ (.slice none 0 0))) := hid8 (Fr.setCell (F := fun j => j = l) (p := ⟨l, 3, none⟩) (Fr.setCell (F := fun j => j = l) (p := ⟨l, 5, none⟩) (Fr.refl _ w1) (.inl rfl) _) (.inl rfl) _)
  go_wp2_with fail
  generalize (w1.setCell ⟨l, 5, none⟩ (.int .i64 (L.wait.length : Int))).setCell ⟨l, 3, none⟩ (.slice none 0 0) = w2 at *
  refine (walNote_any HL2.out x).mono ?_
  rintro e w3 ⟨rfl, hl3, hf3⟩
  have HF3 := hid8 (HF2.out.trans hf3 (fun j e => .inl e))
  clear hf3 HF2 HL2
  by_cases hx : x = 0
  · subst hx
    have eR : Hid (R0 = (0, S1)) := hid8 (by rw [← HR0.out, op_0 HS.out, HR.out])
    have eL : Hid (L0 = { { L with seq := (L.seq + L.wait.length) % 18446744073709551616, grp := L.wait.length, wait := [] } with step := 1, over := 0 }) := hid8 (by rw [← HL0.out]; exact goOn_0s HS.out (by rw [HR.out]))
    obtain ⟨t1, t2, t3, t4, t5, t6, t7, t8⟩ := hl3.cells
    have t5' : w3.cell? ⟨l, 4, none⟩ = some (.int .i64 0) := by rw [t5]; show some (Value.int .i64 (L.step : Int)) = _; rw [HS.out]; rfl
    have hll := hl3.lt
    clear t5
    have f4 := hl3.free 4
    have f5 := hl3.free 5
    have f6 := hl3.free 6
    have HL3 := hid8 hl3
    clear hl3
    have HL4 : Hid (Lm (w3.setCell ⟨l, 4, none⟩ (.int .i64 1)) l d (.slice none 0 0) { { L with seq := (L.seq + L.wait.length) % 18446744073709551616, grp := L.wait.length, wait := [] } with step := 1, over := 0 }) := hid8 ((Go.Joins.block_setCell HL3.out _).trans rfl)
    have HF4 := hid8 (Fr.setCell (F := fun j => j = l) (p := ⟨l, 4, none⟩) HF3.out (.inl rfl) (.int .i64 1))
    go_wp2
    go_ret
    have ok' := HOK.out
    rw [eR.out, eL.out] at ok' ⊢
    exact ⟨rfl, PM.fin HA.out hB hal HG.out HDA.out HD1.out HF1.out HF4.out HL4.out (fun _ => Wt.nil _ _) ok'⟩
  · have eR : Hid (R0 = (x, S1)) := hid8 (by rw [← HR0.out, op_0 HS.out, HR.out])
    have eL : Hid (L0 = { { L with seq := (L.seq + L.wait.length) % 18446744073709551616, grp := L.wait.length, wait := [] } with over := x }) := hid8 (by rw [← HL0.out, goOn_0e HS.out (by rw [HR.out]; exact hx), HR.out])
    have hxb : (x != 0) = true := by simpa using hx
    have HL3 := hid8 hl3
    clear hl3
    go_wp2
    go_ret
    have ok' := HOK.out
    rw [eR.out, eL.out] at ok' ⊢
    exact ⟨rfl, PM.fin HA.out hB hal HG.out HDA.out HD1.out HF1.out HF3.out HL3.out (fun _ => Wt.nil _ _) ok'⟩

theorem op_1 (hs : L.step = 1) : L.op S = S.sync (nm8 L.seg) := by unfold Lg.op; simp [hs]
theorem goOn_1e (hs : L.step = 1) (he : (S.sync (nm8 L.seg)).1 ≠ 0) : L.goOn S = { L with over := (S.sync (nm8 L.seg)).1 } := by
  unfold Lg.goOn
  rw [op_1 hs, if_pos he]
  unfold Lg.mid
  simp [hs]
theorem goOn_1s (hs : L.step = 1) (he : (S.sync (nm8 L.seg)).1 = 0) : L.goOn S = { L with step := 2, over := 0 } := by
  unfold Lg.goOn
  rw [op_1 hs, if_neg (by omega)]
  unfold Lg.mid
  simp [hs]

set_option maxRecDepth 100000 in
set_option maxHeartbeats 4000000 in
theorem walGoOn_1 (h : PM w B A l d S L N) (hs : L.step = 1) (ho : L.over = 0) :
    Calls Tryz.prog 66 #[.pointer (some ⟨l, 0, none⟩)] w fun e w' => e = .returned (.int .i64 (L.op S).1) ∧ PM w' B (Land.more A w w') l d (L.op S).2 (L.goOn S) N ∧ Fr A w w' := by
  obtain ⟨⟨D, v, hD, hl, hw, hDA⟩, hal, hA, hB, hg, ok⟩ := h
  have HOK := hid8 (ok.goOn ho)
  generalize hR0 : L.op S = R0 at HOK ⊢
  generalize hL0 : L.goOn S = L0 at HOK ⊢
  have HR0 := hid8 hR0
  have HL0 := hid8 hL0
  clear hR0 hL0
  obtain ⟨o1, o2, o3, o4, o5, o6, o7, o8⟩ := ok
  have hall := hA l hal
  have hnD : ¬ D l := fun e => (hDA l e).2 rfl
  obtain ⟨s1, s2, s3, s4, s5, s6, s7, s8⟩ := hl.cells
  rw [hs] at s5
  have HA := hid8 hA
  have HG := hid8 hg
  have HW := hid8 hw
  have HDA := hid8 hDA
  have HS := hid8 hs
  have HC := hid8 (sync_any hD hl hnD hB hg (by omega) (by omega))
  clear hD hl hg hw hA hnD hs hDA
  go_enter Tryz.func66, Tryz.ntmps66
  go_wp2_with fail
  refine HC.out.mono ?_
  rintro e w1 ⟨rfl, hd1, hl1, hf1⟩
  have HD1 := hid8 hd1
  have HL1 := hid8 hl1
  have HF1 := hid8 hf1
  have hz1 : w.heap.size ≤ w1.heap.size := hf1.size
  clear hd1 hl1 hf1 HC
  have HL2 := HL1
  have HF2 : Hid (Fr (fun j => j = l) w1 w1) := hid8 (Fr.refl _ _)
  obtain ⟨w2, hw2⟩ : ∃ w2, w2 = w1 := ⟨_, rfl⟩
  generalize hR : S.sync (nm8 L.seg) = R at *
  have HR := hid8 hR
  clear hR
  obtain ⟨x, S1⟩ := R
  clear hw2 w2
  go_wp2_with fail
  obtain ⟨w2, hw2⟩ : ∃ w2, w2 = w1 := ⟨_, rfl⟩
  rw [← hw2] at HL2
  have HF2 : Hid (Fr (fun j => j = l) w1 w2) := hid8 (by rw [hw2]; exact Fr.refl _ _)
  rw [← hw2]
  clear hw2
  refine (walNote_any HL2.out x).mono ?_
  rintro e w3 ⟨rfl, hl3, hf3⟩
  have HF3 := hid8 (HF2.out.trans hf3 (fun j e => .inl e))
  clear hf3 HF2 HL2
  by_cases hx : x = 0
  · subst hx
    have eR : Hid (R0 = (0, S1)) := hid8 (by rw [← HR0.out, op_1 HS.out, HR.out])
    have eL : Hid (L0 = { L with step := 2, over := 0 }) := hid8 (by rw [← HL0.out]; exact goOn_1s HS.out (by rw [HR.out]))
    obtain ⟨t1, t2, t3, t4, t5, t6, t7, t8⟩ := hl3.cells
    have t5' : w3.cell? ⟨l, 4, none⟩ = some (.int .i64 1) := by rw [t5]; show some (Value.int .i64 (L.step : Int)) = _; rw [HS.out]; rfl
    have hll := hl3.lt
    clear t5
    have f4 := hl3.free 4
    have f5 := hl3.free 5
    have f6 := hl3.free 6
    have HL3 := hid8 hl3
    clear hl3
    have HL4 : Hid (Lm (w3.setCell ⟨l, 4, none⟩ (.int .i64 2)) l d (v) { L with step := 2, over := 0 }) := hid8 ((Go.Joins.block_setCell HL3.out _).trans rfl)
    have HF4 := hid8 (Fr.setCell (F := fun j => j = l) (p := ⟨l, 4, none⟩) HF3.out (.inl rfl) (.int .i64 2))
    go_wp2
    go_ret
    have ok' := HOK.out
    rw [eR.out, eL.out] at ok' ⊢
    exact ⟨rfl, PM.fin HA.out hB hal HG.out HDA.out HD1.out HF1.out HF4.out HL4.out (fun F => HW.out.over (fun j hj => (HA.out j hj).2) F) ok'⟩
  · have eR : Hid (R0 = (x, S1)) := hid8 (by rw [← HR0.out, op_1 HS.out, HR.out])
    have eL : Hid (L0 = { L with over := x }) := hid8 (by rw [← HL0.out, goOn_1e HS.out (by rw [HR.out]; exact hx), HR.out])
    have hxb : (x != 0) = true := by simpa using hx
    have HL3 := hid8 hl3
    clear hl3
    go_wp2
    go_ret
    have ok' := HOK.out
    rw [eR.out, eL.out] at ok' ⊢
    exact ⟨rfl, PM.fin HA.out hB hal HG.out HDA.out HD1.out HF1.out HF3.out HL3.out (fun F => HW.out.over (fun j hj => (HA.out j hj).2) F) ok'⟩

theorem op_2 (hs : L.step = 2) : L.op S = S.app (nm8 L.seg) (fra L.seq []) := by unfold Lg.op; simp [hs]
theorem goOn_2e (hs : L.step = 2) (he : (S.app (nm8 L.seg) (fra L.seq [])).1 ≠ 0) : L.goOn S = { { L with seq := (L.seq + 1) % 18446744073709551616 } with over := (S.app (nm8 L.seg) (fra L.seq [])).1 } := by
  unfold Lg.goOn
  rw [op_2 hs, if_pos he]
  unfold Lg.mid
  simp [hs]
theorem goOn_2s (hs : L.step = 2) (he : (S.app (nm8 L.seg) (fra L.seq [])).1 = 0) : L.goOn S = { { L with seq := (L.seq + 1) % 18446744073709551616 } with step := 3, over := 0 } := by
  unfold Lg.goOn
  rw [op_2 hs, if_neg (by omega)]
  unfold Lg.mid
  simp [hs]

set_option maxRecDepth 100000 in
set_option maxHeartbeats 4000000 in
theorem walGoOn_2 (h : PM w B A l d S L N) (hs : L.step = 2) (ho : L.over = 0) :
    Calls Tryz.prog 66 #[.pointer (some ⟨l, 0, none⟩)] w fun e w' => e = .returned (.int .i64 (L.op S).1) ∧ PM w' B (Land.more A w w') l d (L.op S).2 (L.goOn S) N ∧ Fr A w w' := by
  obtain ⟨⟨D, v, hD, hl, hw, hDA⟩, hal, hA, hB, hg, ok⟩ := h
  have HOK := hid8 (ok.goOn ho)
  generalize hR0 : L.op S = R0 at HOK ⊢
  generalize hL0 : L.goOn S = L0 at HOK ⊢
  have HR0 := hid8 hR0
  have HL0 := hid8 hL0
  clear hR0 hL0
  obtain ⟨o1, o2, o3, o4, o5, o6, o7, o8⟩ := ok
  have hall := hA l hal
  have hnD : ¬ D l := fun e => (hDA l e).2 rfl
  obtain ⟨s1, s2, s3, s4, s5, s6, s7, s8⟩ := hl.cells
  rw [hs] at s5
  have HA := hid8 hA
  have HG := hid8 hg
  have HW := hid8 hw
  have HDA := hid8 hDA
  have HS := hid8 hs
  have HC := hid8 (seal_any hD hl hnD hB hg (by omega) (by omega) o4)
  clear hD hl hg hw hA hnD hs hDA
  go_enter Tryz.func66, Tryz.ntmps66
  go_wp2_with fail
  refine HC.out.mono ?_
  rintro e w1 ⟨rfl, hd1, hl1, hf1⟩
  have HD1 := hid8 hd1
  have HL1 := hid8 hl1
  have HF1 := hid8 hf1
  have hz1 : w.heap.size ≤ w1.heap.size := hf1.size
  clear hd1 hl1 hf1 HC
  have HL2 := HL1
  have HF2 : Hid (Fr (fun j => j = l) w1 w1) := hid8 (Fr.refl _ _)
  obtain ⟨w2, hw2⟩ : ∃ w2, w2 = w1 := ⟨_, rfl⟩
  generalize hR : S.app (nm8 L.seg) (fra L.seq []) = R at *
  have HR := hid8 hR
  clear hR
  obtain ⟨x, S1⟩ := R
  clear hw2 w2
  go_wp2_with fail
  obtain ⟨w2, hw2⟩ : ∃ w2, w2 = w1 := ⟨_, rfl⟩
  rw [← hw2] at HL2
  have HF2 : Hid (Fr (fun j => j = l) w1 w2) := hid8 (by rw [hw2]; exact Fr.refl _ _)
  rw [← hw2]
  clear hw2
  refine (walNote_any HL2.out x).mono ?_
  rintro e w3 ⟨rfl, hl3, hf3⟩
  have HF3 := hid8 (HF2.out.trans hf3 (fun j e => .inl e))
  clear hf3 HF2 HL2
  by_cases hx : x = 0
  · subst hx
    have eR : Hid (R0 = (0, S1)) := hid8 (by rw [← HR0.out, op_2 HS.out, HR.out])
    have eL : Hid (L0 = { { L with seq := (L.seq + 1) % 18446744073709551616 } with step := 3, over := 0 }) := hid8 (by rw [← HL0.out]; exact goOn_2s HS.out (by rw [HR.out]))
    obtain ⟨t1, t2, t3, t4, t5, t6, t7, t8⟩ := hl3.cells
    have t5' : w3.cell? ⟨l, 4, none⟩ = some (.int .i64 2) := by rw [t5]; show some (Value.int .i64 (L.step : Int)) = _; rw [HS.out]; rfl
    have hll := hl3.lt
    clear t5
    have f4 := hl3.free 4
    have f5 := hl3.free 5
    have f6 := hl3.free 6
    have HL3 := hid8 hl3
    clear hl3
    have HL4 : Hid (Lm (w3.setCell ⟨l, 4, none⟩ (.int .i64 3)) l d (v) { { L with seq := (L.seq + 1) % 18446744073709551616 } with step := 3, over := 0 }) := hid8 ((Go.Joins.block_setCell HL3.out _).trans rfl)
    have HF4 := hid8 (Fr.setCell (F := fun j => j = l) (p := ⟨l, 4, none⟩) HF3.out (.inl rfl) (.int .i64 3))
    go_wp2
    go_ret
    have ok' := HOK.out
    rw [eR.out, eL.out] at ok' ⊢
    exact ⟨rfl, PM.fin HA.out hB hal HG.out HDA.out HD1.out HF1.out HF4.out HL4.out (fun F => HW.out.over (fun j hj => (HA.out j hj).2) F) ok'⟩
  · have eR : Hid (R0 = (x, S1)) := hid8 (by rw [← HR0.out, op_2 HS.out, HR.out])
    have eL : Hid (L0 = { { L with seq := (L.seq + 1) % 18446744073709551616 } with over := x }) := hid8 (by rw [← HL0.out, goOn_2e HS.out (by rw [HR.out]; exact hx), HR.out])
    have hxb : (x != 0) = true := by simpa using hx
    have HL3 := hid8 hl3
    clear hl3
    go_wp2
    go_ret
    have ok' := HOK.out
    rw [eR.out, eL.out] at ok' ⊢
    exact ⟨rfl, PM.fin HA.out hB hal HG.out HDA.out HD1.out HF1.out HF3.out HL3.out (fun F => HW.out.over (fun j hj => (HA.out j hj).2) F) ok'⟩

theorem op_3 (hs : L.step = 3) : L.op S = S.sync (nm8 L.seg) := by unfold Lg.op; simp [hs]
theorem goOn_3e (hs : L.step = 3) (he : (S.sync (nm8 L.seg)).1 ≠ 0) : L.goOn S = { L with over := (S.sync (nm8 L.seg)).1 } := by
  unfold Lg.goOn
  rw [op_3 hs, if_pos he]
  unfold Lg.mid
  simp [hs]
theorem goOn_3s (hs : L.step = 3) (he : (S.sync (nm8 L.seg)).1 = 0) : L.goOn S = { L with done := L.done + L.grp, grp := 0, step := 0, over := 0 } := by
  unfold Lg.goOn
  rw [op_3 hs, if_neg (by omega)]
  unfold Lg.mid
  simp [hs]

set_option maxRecDepth 100000 in
set_option maxHeartbeats 4000000 in
theorem walGoOn_3 (h : PM w B A l d S L N) (hs : L.step = 3) (ho : L.over = 0) :
    Calls Tryz.prog 66 #[.pointer (some ⟨l, 0, none⟩)] w fun e w' => e = .returned (.int .i64 (L.op S).1) ∧ PM w' B (Land.more A w w') l d (L.op S).2 (L.goOn S) N ∧ Fr A w w' := by
  obtain ⟨⟨D, v, hD, hl, hw, hDA⟩, hal, hA, hB, hg, ok⟩ := h
  have HOK := hid8 (ok.goOn ho)
  generalize hR0 : L.op S = R0 at HOK ⊢
  generalize hL0 : L.goOn S = L0 at HOK ⊢
  have HR0 := hid8 hR0
  have HL0 := hid8 hL0
  clear hR0 hL0
  obtain ⟨o1, o2, o3, o4, o5, o6, o7, o8⟩ := ok
  have hall := hA l hal
  have hnD : ¬ D l := fun e => (hDA l e).2 rfl
  obtain ⟨s1, s2, s3, s4, s5, s6, s7, s8⟩ := hl.cells
  rw [hs] at s5
  have HA := hid8 hA
  have HG := hid8 hg
  have HW := hid8 hw
  have HDA := hid8 hDA
  have HS := hid8 hs
  have HC := hid8 (sync_any hD hl hnD hB hg (by omega) (by omega))
  clear hD hl hg hw hA hnD hs hDA
  go_enter Tryz.func66, Tryz.ntmps66
  go_wp2_with fail
  refine HC.out.mono ?_
  rintro e w1 ⟨rfl, hd1, hl1, hf1⟩
  have HD1 := hid8 hd1
  have HL1 := hid8 hl1
  have HF1 := hid8 hf1
  have hz1 : w.heap.size ≤ w1.heap.size := hf1.size
  clear hd1 hl1 hf1 HC
  have HL2 := HL1
  have HF2 : Hid (Fr (fun j => j = l) w1 w1) := hid8 (Fr.refl _ _)
  obtain ⟨w2, hw2⟩ : ∃ w2, w2 = w1 := ⟨_, rfl⟩
  generalize hR : S.sync (nm8 L.seg) = R at *
  have HR := hid8 hR
  clear hR
  obtain ⟨x, S1⟩ := R
  clear hw2 w2
  go_wp2_with fail
  obtain ⟨w2, hw2⟩ : ∃ w2, w2 = w1 := ⟨_, rfl⟩
  rw [← hw2] at HL2
  have HF2 : Hid (Fr (fun j => j = l) w1 w2) := hid8 (by rw [hw2]; exact Fr.refl _ _)
  rw [← hw2]
  clear hw2
  refine (walNote_any HL2.out x).mono ?_
  rintro e w3 ⟨rfl, hl3, hf3⟩
  have HF3 := hid8 (HF2.out.trans hf3 (fun j e => .inl e))
  clear hf3 HF2 HL2
  by_cases hx : x = 0
  · subst hx
    have eR : Hid (R0 = (0, S1)) := hid8 (by rw [← HR0.out, op_3 HS.out, HR.out])
    have eL : Hid (L0 = { L with done := L.done + L.grp, grp := 0, step := 0, over := 0 }) := hid8 (by rw [← HL0.out]; exact goOn_3s HS.out (by rw [HR.out]))
    obtain ⟨t1, t2, t3, t4, t5, t6, t7, t8⟩ := hl3.cells
    have t5' : w3.cell? ⟨l, 4, none⟩ = some (.int .i64 3) := by rw [t5]; show some (Value.int .i64 (L.step : Int)) = _; rw [HS.out]; rfl
    have hll := hl3.lt
    clear t5
    have f4 := hl3.free 4
    have f5 := hl3.free 5
    have f6 := hl3.free 6
    have HL3 := hid8 hl3
    clear hl3
    have hw1 : IntKind.i64.wrap ((L.done : Int) + (L.grp : Int)) = ((L.done + L.grp : Nat) : Int) := by rw [IntKind.wrap_i64]; omega
    go_wp2
    go_region
    have HL4 : Hid (Lm (((w3.setCell ⟨l, 6, none⟩ (.int .i64 ((L.done : Int) + (L.grp : Int)))).setCell ⟨l, 5, none⟩ (.int .i64 0)).setCell ⟨l, 4, none⟩ (.int .i64 0)).drew l d v { L with done := L.done + L.grp, grp := 0, step := 0, over := 0 }) := hid8 ((Go.Joins.block_setCell ((Go.Joins.block_setCell ((Go.Joins.block_setCell HL3.out _).trans rfl) _).trans rfl) _).trans rfl)
    have HF4 : Hid (Fr (fun j => j = l) w1 (((w3.setCell ⟨l, 6, none⟩ (.int .i64 ((L.done : Int) + (L.grp : Int)))).setCell ⟨l, 5, none⟩ (.int .i64 0)).setCell ⟨l, 4, none⟩ (.int .i64 0)).drew) := hid8 ((Fr.setCell (F := fun j => j = l) (p := ⟨l, 4, none⟩) (Fr.setCell (F := fun j => j = l) (p := ⟨l, 5, none⟩) (Fr.setCell (F := fun j => j = l) (p := ⟨l, 6, none⟩) HF3.out (.inl rfl) _) (.inl rfl) _) (.inl rfl) _).drewN 1)
    go_wp2
    go_ret
    have ok' := HOK.out
    rw [eR.out, eL.out] at ok' ⊢
    exact ⟨rfl, PM.fin HA.out hB hal HG.out HDA.out HD1.out HF1.out HF4.out HL4.out (fun F => HW.out.over (fun j hj => (HA.out j hj).2) F) ok'⟩
  · have eR : Hid (R0 = (x, S1)) := hid8 (by rw [← HR0.out, op_3 HS.out, HR.out])
    have eL : Hid (L0 = { L with over := x }) := hid8 (by rw [← HL0.out, goOn_3e HS.out (by rw [HR.out]; exact hx), HR.out])
    have hxb : (x != 0) = true := by simpa using hx
    have HL3 := hid8 hl3
    clear hl3
    go_wp2
    go_ret
    have ok' := HOK.out
    rw [eR.out, eL.out] at ok' ⊢
    exact ⟨rfl, PM.fin HA.out hB hal HG.out HDA.out HD1.out HF1.out HF3.out HL3.out (fun F => HW.out.over (fun j hj => (HA.out j hj).2) F) ok'⟩

theorem walGoOn_any (h : PM w B A l d S L N) (ho : L.over = 0) :
    Calls Tryz.prog 66 #[.pointer (some ⟨l, 0, none⟩)] w fun e w' => e = .returned (.int .i64 (L.op S).1) ∧ PM w' B (Land.more A w w') l d (L.op S).2 (L.goOn S) N ∧ Fr A w w' := by
  have h3 := h.ok.st
  rcases Nat.lt_or_ge L.step 1 with h0 | h0
  · exact walGoOn_0 h (by omega) ho
  · rcases Nat.lt_or_ge L.step 2 with h1 | h1
    · exact walGoOn_1 h (by omega) ho
    · rcases Nat.lt_or_ge L.step 3 with h2 | h2
      · exact walGoOn_2 h (by omega) ho
      · exact walGoOn_3 h (by omega) ho
end
end Go.Proofs.YtgifcgniphncdaaGreatDoor

/-
  Flush, Flushed of the log with its disk; Rotate's loop.
-/
set_option linter.unusedVariables false
set_option linter.unusedSimpArgs false
namespace Go.Proofs.YtgifcgniphncdaaGreatDoor
open Go.RowKit Go.Maps

section
variable {w w' w1 : World} {B : Nat} {A D : Nat → Prop} {l d : Nat} {v v' : Value} {S S' : Dsk} {L L' : Lg} {N : Nat}
theorem PM.stay (h : PM w B A l d S L N) : PM w B (Land.more A w w) l d S L N := h.mono (fun j hj => .inl hj) (fun j hj => by
  rcases hj with hj | hj
  · exact h.lo j hj
  · have := hj.1; have := hj.2; omega)
theorem PM.then {A' : Nat → Prop} (h : PM w' B (Land.more (Land.more A w w1) w1 w') l d S L N) (hA : ∀ j, A j → B ≤ j ∧ j < w.heap.size) (hB : B ≤ w.heap.size) (h1 : w.heap.size ≤ w1.heap.size) (h2 : w1.heap.size ≤ w'.heap.size) : PM w' B (Land.more A w w') l d S L N := h.mono (fun j hj => more_trans h1 h2 hj) (fun j hj => by
  rcases hj with hj | hj
  · exact ⟨(hA j hj).1, by have := (hA j hj).2; omega⟩
  · exact ⟨by have := hj.1; omega, hj.2⟩)
theorem Fr.then8 {F : Nat → Prop} (h : Fr F w w1) (k : Fr (Land.more F w w1) w1 w') : Fr F w w' := h.trans k (fun j e => by
  rcases e with e | e
  · exact .inl e
  · exact .inr e.1)

theorem pmFlushed_any (h : PM w B A l d S L N) : Calls Tryz.prog 21 #[.pointer (some ⟨l, 0, none⟩)] w fun e w' => e = .returned (.int .i64 (L.done : Int)) ∧ w' = w := by
  obtain ⟨⟨D, v, h1, h2, h3, h4⟩, h5, h6, h7, h8, h9⟩ := h
  exact walFlushed_any h2
theorem pmRefuses_any (h : PM w B A l d S L N) : Calls Tryz.prog 65 #[.pointer (some ⟨l, 0, none⟩)] w fun e w' => e = .returned (.int .i64 L.over) ∧ w' = w := by
  obtain ⟨⟨D, v, h1, h2, h3, h4⟩, h5, h6, h7, h8, h9⟩ := h
  exact walRefuses_any h2
theorem pmRests_any (h : PM w B A l d S L N) : Calls Tryz.prog 73 #[.pointer (some ⟨l, 0, none⟩)] w fun e w' => e = .returned (.bool L.rests) ∧ w' = w := by
  have hn := h.ok.n
  have hb := h.ok.big
  obtain ⟨⟨D, v, h1, h2, h3, h4⟩, h5, h6, h7, h8, h9⟩ := h
  obtain ⟨ao, cap, e, -⟩ := h3.pl
  exact walRests_any (bs := []) h2 ⟨ao, cap, e⟩ (by omega)

set_option maxRecDepth 100000 in
set_option maxHeartbeats 2000000 in
theorem walFlush_any (h : PM w B A l d S L N) :
    Calls Tryz.prog 35 #[.pointer (some ⟨l, 0, none⟩)] w fun e w' => e = .returned (.tuple #[.bool (L.flush S).1.1, .int .i64 (L.flush S).1.2]) ∧ PM w' B (Land.more A w w') l d (L.flush S).2.2 (L.flush S).2.1 N ∧ Fr A w w' := by
  have HRf := hid8 (pmRefuses_any h)
  have HRs := hid8 (pmRests_any h)
  have HH := hid8 h
  generalize hF : L.flush S = F0
  have HF := hid8 hF
  clear hF h
  by_cases ho : L.over = 0
  · by_cases hr : L.rests = true
    · have eF : Hid (F0 = ((true, 0), L, S)) := hid8 (by rw [← HF.out]; unfold Lg.flush; rw [if_neg (by omega), if_pos hr])
      rw [ho] at HRf
      rw [hr] at HRs
      go_enter Tryz.func35, Tryz.ntmps35
      go_wp2_with fail
      refine HRf.out.mono ?_
      rintro e w1 ⟨rfl, rfl⟩
      clear HRf
      go_wp2_with fail
      refine HRs.out.mono ?_
      rintro e w2 ⟨rfl, rfl⟩
      clear HRs
      go_wp2
      go_ret2
      rw [eF.out]
      exact ⟨rfl, HH.out.stay, Fr.refl _ _⟩
    · have hr2 : L.rests = false := by simpa using hr
      have eF : Hid (F0 = ((decide ((L.op S).1 = 0) && (L.goOn S).rests, (L.op S).1), L.goOn S, (L.op S).2)) := hid8 (by rw [← HF.out]; unfold Lg.flush; rw [if_neg (by omega), if_neg hr])
      have HGo := hid8 (walGoOn_any HH.out ho)
      rw [ho] at HRf
      rw [hr2] at HRs
      clear hr hr2
      have hA := HH.out.lo
      have hB := HH.out.bw
      go_enter Tryz.func35, Tryz.ntmps35
      go_wp2_with fail
      refine HRf.out.mono ?_
      rintro e w1 ⟨rfl, rfl⟩
      clear HRf
      go_wp2_with fail
      refine HRs.out.mono ?_
      rintro e w2 ⟨rfl, rfl⟩
      clear HRs
      go_wp2_with fail
      refine HGo.out.mono ?_
      rintro e w3 ⟨rfl, hp3, hf3⟩
      have HP3 := hid8 hp3
      have HF3 := hid8 hf3
      clear HGo hp3 hf3
      by_cases hx : (L.op S).1 = 0
      · have HR3 := hid8 (pmRests_any HP3.out)
        rw [hx]
        go_wp2_with fail
        refine HR3.out.mono ?_
        rintro e w4 ⟨rfl, rfl⟩
        clear HR3
        go_wp2
        go_ret2
        rw [eF.out]
        refine ⟨?_, HP3.out, HF3.out⟩
        simp [hx]
      · have hxb : ((L.op S).1 != 0) = true := by simpa using hx
        go_wp2
        go_ret2
        rw [eF.out]
        refine ⟨?_, HP3.out, HF3.out⟩
        simp [hx]
  · have eF : Hid (F0 = ((false, L.over), L, S)) := hid8 (by rw [← HF.out]; unfold Lg.flush; rw [if_pos ho])
    have hob : (L.over != 0) = true := by simpa using ho
    go_enter Tryz.func35, Tryz.ntmps35
    go_wp2_with fail
    refine HRf.out.mono ?_
    rintro e w1 ⟨rfl, rfl⟩
    clear HRf
    go_wp2
    go_ret2
    rw [eF.out]
    exact ⟨rfl, HH.out.stay, Fr.refl _ _⟩
end
end Go.Proofs.YtgifcgniphncdaaGreatDoor

/-
  Rotate. (Printed by gen_w12.py.)
-/
set_option linter.unusedVariables false
set_option linter.unusedSimpArgs false
namespace Go.Proofs.YtgifcgniphncdaaGreatDoor
open Go.RowKit Go.Maps

/-! ### What went well took an operation -/
theorem app_ok (S : Dsk) (s : ByteArray) (xs : List Int) (h : (S.app s xs).1 = 0) : (S.app s xs).2.P.n = S.P.n + 1 := by
  revert h
  show ans S.P.n S.c S.o (S.P.app s xs) = 0 → (lef S.P S.c S.o (S.P.app s xs)).n = S.P.n + 1
  unfold ans lef
  split
  · intro h; omega
  · unfold PD.app
    split
    · intro h; simp at h
    · split
      · split
        · intro h; simp at h
        · intro _; rfl
      · split
        · intro h; simp at h
        · intro _; rfl
theorem beg_n (S : Dsk) (n : Int) (seq : Nat) : S.P.n ≤ (beg S n seq).2.P.n ∧ ((beg S n seq).1 = 0 → S.P.n + 1 ≤ (beg S n seq).2.P.n) := by
  have h1 := dsk_app_n S (nm8 n) (fra seq (fstB n))
  have h2 := dsk_sync_n (S.app (nm8 n) (fra seq (fstB n))).2 (nm8 n)
  have h3 := dsk_syncDir_n ((S.app (nm8 n) (fra seq (fstB n))).2.sync (nm8 n)).2
  have h4 := app_ok S (nm8 n) (fra seq (fstB n))
  unfold beg
  split
  · exact ⟨h1, fun h => absurd h (by assumption)⟩
  · rename_i e1
    have h5 := h4 (by simpa using e1)
    split
    · exact ⟨by omega, fun h => absurd h (by assumption)⟩
    · exact ⟨by omega, fun _ => by omega⟩

/-! ### The group that is under way -/
theorem goOn_seg (L : Lg) (S : Dsk) : (L.goOn S).seg = L.seg := by
  unfold Lg.goOn Lg.mid
  split
  · split
    · rfl
    · split <;> rfl
  · split
    · split
      · rfl
      · split <;> rfl
    · split
      · rfl
      · split <;> rfl
theorem fin_seg : ∀ (k : Nat) (L : Lg) (S : Dsk), (L.fin S k).1.seg = L.seg
  | 0, L, S => rfl
  | k + 1, L, S => by
    unfold Lg.fin
    split
    · rfl
    · rw [fin_seg k, goOn_seg]
/-- How many operations are left of a group. -/
def Lg.left (L : Lg) : Nat := if L.step = 0 then 0 else 4 - L.step
theorem fin_stop {L : Lg} {S : Dsk} (h : L.over ≠ 0 ∨ L.step = 0) (k : Nat) : L.fin S k = (L, S) := by
  cases k with
  | zero => rfl
  | succ k => unfold Lg.fin; rw [if_pos h]
theorem fin_go {L : Lg} {S : Dsk} (ho : L.over = 0) (hs : L.step ≠ 0) (k : Nat) : L.fin S (k + 1) = (L.goOn S).fin (L.op S).2 k := by
  conv => lhs; unfold Lg.fin
  rw [if_neg (by simp [ho, hs])]
theorem goOn_over (L : Lg) (S : Dsk) : (L.goOn S).over = (L.op S).1 := by
  unfold Lg.goOn
  split
  · rfl
  · rename_i h
    have h : (L.op S).1 = 0 := by simpa using h
    split <;> simp [h]
theorem goOn_left {L : Lg} {S : Dsk} (hs : L.step ≠ 0) (h3 : L.step ≤ 3) (h : (L.op S).1 = 0) : (L.goOn S).left + 1 = L.left := by
  have hst : (L.goOn S).step = if L.step = 3 then 0 else L.step + 1 := by
    unfold Lg.goOn
    rw [if_neg (by omega)]
    split <;> rfl
  unfold Lg.left
  rw [hst, if_neg hs]
  by_cases h0 : L.step = 3
  · rw [if_pos h0, if_pos rfl]; omega
  · rw [if_neg h0, if_neg (by omega)]; omega

section
variable {w w' w1 : World} {B : Nat} {A D : Nat → Prop} {l d : Nat} {v v' : Value} {S S' : Dsk} {L L' : Lg} {N : Nat}
theorem PM.cell4 (h : PM w B A l d S L N) : w.cell? ⟨l, 4, none⟩ = some (.int .i64 (L.step : Int)) := by
  obtain ⟨⟨D, v, h1, h2, h3, h4⟩, h5, h6, h7, h8, h9⟩ := h
  exact h2.cells.2.2.2.2.1
theorem PM.llt (h : PM w B A l d S L N) : l < w.heap.size := (h.lo l h.al).2

set_option maxRecDepth 100000 in
set_option maxHeartbeats 4000000 in
theorem walRotate_any (h : PM w B A l d S L N) :
    Calls Tryz.prog 30 #[.pointer (some ⟨l, 0, none⟩)] w fun e w' => e = .returned (.tuple #[.int .i64 (L.turn S).1.1, .int .i64 (L.turn S).1.2]) ∧ PM w' B (Land.more A w w') l d (L.turn S).2.2 (L.turn S).2.1 N ∧ Fr A w w' := by
  have HRf := hid8 (pmRefuses_any h)
  have HH := hid8 h
  have HA := hid8 h.lo
  have hBw := h.bw
  generalize hF : L.turn S = F0
  have HF := hid8 hF
  clear hF h
  by_cases ho : L.over = 0
  · rw [ho] at HRf
    go_enter Tryz.func30, Tryz.ntmps30
    go_wp2_with fail
    refine HRf.out.mono ?_
    rintro e w1 ⟨rfl, rfl⟩
    clear HRf
    go_wp2
    go_loopw [5] (fun _ wr => ∃ (Lj : Lg) (Sj : Dsk) (k : Nat), Hid (L.fin S 3 = Lj.fin Sj k) ∧ Lj.left ≤ k ∧ Lj.over = 0 ∧ PM wr B (Land.more A w1 wr) l d Sj Lj N ∧ Fr A w1 wr) (fun _ wr => match wr.cell? ⟨l, 4, none⟩ with | some (.int _ z) => if z = 0 then 0 else (4 - z).toNat | _ => 0)
    case atStart =>
      refine ⟨L, S, 3, hid8 rfl, ?_, ho, HH.out.stay, Fr.refl _ _⟩
      have := HH.out.ok.st
      unfold Lg.left
      split <;> omega
    case round =>
      obtain ⟨Lj, Sj, k, hfin, hle, hov, hp, hf⟩ := hrel
      have hc := hp.cell4
      have hll := hp.llt
      have hst := hp.ok.st
      have hsz := hf.size
      by_cases hs : Lj.step = 0
      · have eT : Hid (L.fin S 3 = (Lj, Sj)) := hid8 (by rw [hfin.out]; exact fin_stop (.inr hs) k)
        have eG : Hid (Lj.seg = L.seg) := hid8 (by rw [← fin_seg 3 L S, eT.out])
        rw [hs] at hc
        have HH2 := hid8 hp
        have HF2 := hid8 hf
        obtain ⟨⟨D, v, d1, d2, d3, d4⟩, hal, hA1, hB1, hg1, ok⟩ := hp
        obtain ⟨o1, o2, o3, o4, o5, o6, o7, o8⟩ := ok
        have o3' := o3 hov
        have hpn := d1.inv.hi
        have hnD : ¬ D l := fun e => (d4 l e).2 rfl
        have hBl := (hA1 l hal).1
        have q2 := d2.cells.2.1
        obtain ⟨wR, hwR⟩ : ∃ x, x = wr := ⟨_, rfl⟩
        have bd := below_drew wR
        subst hwR
        have HBG := hid8 (begin_any (d1.below bd) (d2.below bd) hnD hB1 hBl (fun j hj => (hA1 j (d4 j hj).1).1) (hg1.on (bd.mono hB1)) (Lj.seg + 1) (by omega) (by omega) o4)
        have hw1 : IntKind.i64.wrap (Lj.seg + 1) = Lj.seg + 1 := by rw [IntKind.wrap_i64]; omega
        have HD3 := hid8 d3
        have HD4 := hid8 d4
        have HA1 := hid8 hA1
        have HG1 := hid8 hg1
        have O8 := hid8 o8
        clear d1 d2 d3 d4 hA1 hg1 o8 bd hs hle hfin hnD HH
        go_wp2
        refine wp_region_noPanic ?_
        refine wp_region_held_drew (S := (fun u : World => True)) (by kernel_rfl) (trivial) (fun hHeld => ?_)
        refine wpAnyH_take (i := 0) (oi := { dst := some 22, op := _, type := _, pos := _, after := _, guard := _ }) (v := ?_) rfl (by kernel_rfl) (by kernel_rfl) (by kernel_rfl) (fun _ _ _ h => h) (Or.inl ⟨by rfl, ?_⟩) (by assumption) ?_
        rotate_left 1
        · intro u hSw; obtain s1 := hSw; go_simp; try with_reducible rfl
        try simp only [Act.put, List.setIfInBounds_toArray, List.set_cons_zero, List.set_cons_succ]
        refine wpAnyH_take (i := 1) (oi := { dst := some 23, op := _, type := _, pos := _, after := _, guard := _ }) (v := ?_) rfl (by kernel_rfl) (by kernel_rfl) (by kernel_rfl) (fun _ _ _ h => h) (Or.inl ⟨by rfl, ?_⟩) (by assumption) ?_
        rotate_left 1
        · intro u hSw; obtain s1 := hSw; go_simp; try with_reducible rfl
        try simp only [Act.put, List.setIfInBounds_toArray, List.set_cons_zero, List.set_cons_succ]
        refine wpAnyH_take (i := 2) (oi := { dst := some 24, op := _, type := _, pos := _, after := _, guard := _ }) (v := ?_) rfl (by kernel_rfl) (by kernel_rfl) (by kernel_rfl) (fun _ _ _ h => h) (Or.inl ⟨by rfl, ?_⟩) (by assumption) ?_
        rotate_left 1
        · intro u hSw; obtain s1 := hSw; go_simp; try with_reducible rfl
        try simp only [Act.put, List.setIfInBounds_toArray, List.set_cons_zero, List.set_cons_succ]
        refine wpAnyH_take (i := 3) (oi := { dst := some 25, op := _, type := _, pos := _, after := _, guard := _ }) (v := ?_) rfl (by kernel_rfl) (by kernel_rfl) (by kernel_rfl) (fun _ _ _ h => h) (Or.inl ⟨by rfl, ?_⟩) (by assumption) ?_
        rotate_left 1
        · intro u hSw; obtain s1 := hSw; go_simp; try with_reducible rfl
        try simp only [Act.put, List.setIfInBounds_toArray, List.set_cons_zero, List.set_cons_succ]
        refine wpAnyH_take (i := 4) (oi := { dst := some 26, op := _, type := _, pos := _, after := _, guard := _ }) (v := ?_) rfl (by kernel_rfl) (by kernel_rfl) (by kernel_rfl) (fun _ _ _ h => h) (Or.inl ⟨by rfl, ?_⟩) (by assumption) ?_
        rotate_left 1
        · intro u hSw; obtain s1 := hSw; go_simp; try with_reducible rfl
        try simp only [Act.put, List.setIfInBounds_toArray, List.set_cons_zero, List.set_cons_succ]
        refine wpAnyH_take (i := 5) (oi := { dst := some 27, op := _, type := _, pos := _, after := _, guard := _ }) (v := ?_) rfl (by kernel_rfl) (by kernel_rfl) (by kernel_rfl) (fun _ _ _ h => h) (Or.inl ⟨by rfl, ?_⟩) (by assumption) ?_
        rotate_left 1
        · intro u hSw; obtain s1 := hSw; go_simp; try with_reducible rfl
        try simp only [Act.put, List.setIfInBounds_toArray, List.set_cons_zero, List.set_cons_succ]
        refine wpAnyH_take (i := 6) (oi := { dst := some 28, op := _, type := _, pos := _, after := _, guard := _ }) (v := ?_) rfl (by kernel_rfl) (by kernel_rfl) (by kernel_rfl) (fun _ _ _ h => h) (Or.inl ⟨by rfl, ?_⟩) (by assumption) ?_
        rotate_left 1
        · intro u hSw; obtain s1 := hSw; go_simp; try with_reducible rfl
        try simp only [Act.put, List.setIfInBounds_toArray, List.set_cons_zero, List.set_cons_succ]
        refine wpAnyH_take (i := 7) (oi := { dst := some 29, op := _, type := _, pos := _, after := _, guard := _ }) (v := ?_) rfl (by kernel_rfl) (by kernel_rfl) (by kernel_rfl) (fun _ _ _ h => h) (Or.inl ⟨by rfl, ?_⟩) (by assumption) ?_
        rotate_left 1
        · intro u hSw; obtain s1 := hSw; go_simp; try with_reducible rfl
        try simp only [Act.put, List.setIfInBounds_toArray, List.set_cons_zero, List.set_cons_succ]
        refine wpAnyH_ready (rs := [8]) (by kernel_rfl) (by simp) ?_
        refine AllReadyH.cons (o := { dst := some 30, op := _, type := _, pos := _, after := _, guard := _ }) rfl (fun K hK => ?_) AllReadyH.nil
        go_simp
        refine hK.out _ _ (trivial) (fun hHeld => ?_)
        clear hK K
        try simp only [Act.put, List.setIfInBounds_toArray, List.set_cons_zero, List.set_cons_succ]
        refine wpAnyH_take (i := 9) (oi := { dst := some 31, op := _, type := _, pos := _, after := _, guard := _ }) (v := ?_) rfl (by kernel_rfl) (by kernel_rfl) (by kernel_rfl) (fun _ _ _ h => h) (Or.inl ⟨by rfl, ?_⟩) (by assumption) ?_
        rotate_left 1
        · intro u hSw; obtain s1 := hSw; go_simp; try with_reducible rfl
        try simp only [Act.put, List.setIfInBounds_toArray, List.set_cons_zero, List.set_cons_succ]
        refine wpAnyH_ready (rs := [10]) (by kernel_rfl) (by simp) ?_
        refine AllReadyH.cons (o := { dst := some 32, op := _, type := _, pos := _, after := _, guard := _ }) rfl (fun K hK => ?_) AllReadyH.nil
        go_simp
        refine HBG.out.mono ?_
        rintro e w2 ⟨rfl, hd2, hl2, hf2⟩
        have HD2 := hid8 hd2
        have HL2 := hid8 hl2
        have HF3 := hid8 hf2
        have hz2 : wR.heap.size ≤ w2.heap.size := hf2.size
        clear hd2 hl2 hf2 HBG
        go_wp2_with fail
        refine hK.out _ _ (trivial) (fun hHeld => ?_)
        clear hK K
        try simp only [Act.put, List.setIfInBounds_toArray, List.set_cons_zero, List.set_cons_succ]
        refine wpAnyH_ready (rs := [11]) (by kernel_rfl) (by simp) ?_
        refine AllReadyH.cons (o := { dst := some 33, op := _, type := _, pos := _, after := _, guard := _ }) rfl (fun K hK => ?_) AllReadyH.nil
        go_simp
        refine (walNote_any HL2.out _).mono ?_
        rintro e w3 ⟨rfl, hl3, hf3⟩
        have HL3 := hid8 hl3
        have HF4 := hid8 hf3
        clear hl3 hf3
        go_wp2_with fail
        refine hK.out _ _ (trivial) (fun hHeld => ?_)
        clear hK K
        try simp only [Act.put, List.setIfInBounds_toArray, List.set_cons_zero, List.set_cons_succ]
        refine wpAnyH_take (i := 12) (oi := { dst := some 6, op := _, type := _, pos := _, after := _, guard := _ }) (v := ?_) rfl (by kernel_rfl) (by kernel_rfl) (by kernel_rfl) (fun _ _ _ h => h) (Or.inl ⟨by rfl, ?_⟩) (by assumption) ?_
        rotate_left 1
        · intro u hSw; obtain s1 := hSw; go_simp; try with_reducible rfl
        try simp only [Act.put, List.setIfInBounds_toArray, List.set_cons_zero, List.set_cons_succ]
        refine wpAnyH_done (by kernel_rfl) ?_ _
        refine NoPanic.normal ?_
        generalize hRb : beg Sj (Lj.seg + 1) Lj.seq = Rb at *
        have HRb := hid8 hRb
        clear hRb
        obtain ⟨x, Sb⟩ := Rb
        have hbn := beg_n Sj (Lj.seg + 1) Lj.seq
        rw [HRb.out] at hbn
        have eF : Hid (F0 = (if x ≠ 0 then (0, x) else (Lj.seg + 1, 0), { Lj with seg := Lj.seg + 1, seq := (Lj.seq + 1) % 18446744073709551616, over := x }, Sb)) := hid8 (by
          rw [← HF.out]
          unfold Lg.turn
          rw [if_neg (by omega), eT.out, if_neg (by simp [hov]), ← eG.out, HRb.out])
        have PF : PM w3 B (Land.more (Land.more A w1 wR) wR w3) l d Sb { Lj with seg := Lj.seg + 1, seq := (Lj.seq + 1) % 18446744073709551616, over := x } N ∧ Fr (Land.more A w1 wR) wR w3 := by
          have hd : DV w2 (Land.more D wR w2) d Sb := HD2.out
          have hf : Fr (fun j => D j ∨ j = l) wR w2 := ((Fr.refl _ wR).drewN 1).trans HF3.out (fun j e => .inl e)
          refine PM.fin HA1.out hB1 hal HG1.out HD4.out hd hf HF4.out HL3.out (fun F => HD3.out.over (fun j hj => (HA1.out j hj).2) F) ⟨?_, ?_, fun h => ?_, Nat.mod_lt _ (by decide), o5, o6, o7, O8.out⟩
          · show 1 ≤ Lj.seg + 1
            omega
          · show Lj.seg + 1 ≤ 1099511627776
            omega
          · show Lj.seg + 1 ≤ 1073741924 + Sb.P.n
            have := hbn.2 h
            simp only at this
            omega
        have hz3 := PF.2.size
        have HPF := hid8 (PF.1.then (A' := A) (fun j hj => HA.out j hj) hBw hsz hz3)
        have HFF := hid8 (HF2.out.then8 PF.2)
        have x2 := HL3.out.cells.2.1
        have hl3 : l < w3.heap.size := HL3.out.lt
        clear PF
        by_cases hx : x = 0
        · subst hx
          go_wp2
          go_ret2
          rw [eF.out]
          exact ⟨rfl, HPF.out, HFF.out⟩
        · have hxb : (x != 0) = true := by simpa using hx
          go_wp2
          go_ret2
          rw [eF.out]
          refine ⟨?_, HPF.out, HFF.out⟩
          rw [if_pos hx]
          rfl
      · have hs2 : ((Lj.step : Int) != 0) = true := by simp; omega
        have hs3 : ¬ (Lj.step : Int) = 0 := by omega
        have HGo := hid8 (walGoOn_any hp hov)
        obtain ⟨wR, hwR⟩ : ∃ x, x = wr := ⟨_, rfl⟩
        subst hwR
        have HP0 := hid8 hp
        have HF2 := hid8 hf
        clear hp hf HH
        obtain ⟨k', rfl⟩ : ∃ k', k = k' + 1 := ⟨k - 1, by unfold Lg.left at hle; rw [if_neg hs] at hle; omega⟩
        have hfin' : Hid (L.fin S 3 = (Lj.goOn Sj).fin (Lj.op Sj).2 k') := hid8 (by rw [hfin.out, fin_go hov hs])
        have hover := goOn_over Lj Sj
        have hleft : Hid ((Lj.op Sj).1 = 0 → (Lj.goOn Sj).left + 1 = Lj.left) := hid8 (fun h => goOn_left hs hst h)
        clear hfin
        go_wp2_with fail
        refine HGo.out.mono ?_
        rintro e w2 ⟨rfl, hp2, hf2⟩
        have hz2 := hf2.size
        have HP2 := hid8 (hp2.then (A' := A) (fun j hj => HA.out j hj) hBw hsz hz2)
        have HF3 := hid8 (HF2.out.then8 hf2)
        have hc2 := hp2.cell4
        have hst2 := hp2.ok.st
        clear HGo hp2 hf2
        by_cases hx : (Lj.op Sj).1 = 0
        · rw [hx]
          have HV : Hid ((Lj.goOn Sj).over = 0) := hid8 (by rw [hover, hx])
          have HLf := hid8 (hleft.out hx)
          clear hover hleft
          go_wp2
          go_roundw
          case rel => exact ⟨_, _, k', hfin', by have := HLf.out; omega, HV.out, HP2.out, HF3.out⟩
          case measure =>
            rw [hc2, hc]
            have h1 := HLf.out
            unfold Lg.left at h1
            rw [if_neg hs] at h1
            simp only [hs3, if_false]
            split at h1
            · rename_i e
              simp only [e]
              simp
              omega
            · rename_i e
              rw [if_neg (by omega)]
              omega
        · have hxb : ((Lj.op Sj).1 != 0) = true := by simpa using hx
          have eT : Hid (L.fin S 3 = (Lj.goOn Sj, (Lj.op Sj).2)) := hid8 (by rw [hfin'.out]; exact fin_stop (.inl (by rw [hover]; exact hx)) k')
          have eF : Hid (F0 = ((0, (Lj.op Sj).1), Lj.goOn Sj, (Lj.op Sj).2)) := hid8 (by
            rw [← HF.out]
            unfold Lg.turn
            rw [if_neg (by omega), eT.out, if_pos (by simp [hover, hx])]
            simp [hover])
          clear hover
          go_wp2
          go_ret2
          rw [eF.out]
          exact ⟨rfl, HP2.out, HF3.out⟩
  · have eF : Hid (F0 = ((0, L.over), L, S)) := hid8 (by rw [← HF.out]; unfold Lg.turn; rw [if_pos ho])
    have hob : (L.over != 0) = true := by simpa using ho
    go_enter Tryz.func30, Tryz.ntmps30
    go_wp2_with fail
    refine HRf.out.mono ?_
    rintro e w1 ⟨rfl, rfl⟩
    clear HRf
    go_wp2
    go_ret2
    rw [eF.out]
    exact ⟨rfl, HH.out.stay, Fr.refl _ _⟩
end
end Go.Proofs.YtgifcgniphncdaaGreatDoor
