/-
  An operation by its own call; one step by both.
-/
import Derived.Test.YtiflchilmogdoaaDoorJ1
set_option linter.unusedVariables false
set_option linter.unusedSimpArgs false
namespace Go.Proofs.YtiflchilmogdoaaDoor
open Go.RowKit

section
variable {w : World} {d g : Nat} {T : List Bool} {N : List Int} {m : Int} {F : List Nat}

theorem Did.alloc {kind : Nat} {w' : World} {c a b v x : Int} {o : Obj} (h : Did kind (w.alloc o) w' d g T N m F c a b v x) : Did kind w w' d g T N m F c a b v x :=
  ⟨h.yes, h.no, Fr.trans ((Fr.refl _ w).alloc o) h.fr (fun j hj => .inl hj)⟩
theorem Did.ofKind {kind : Nat} {w' : World} {c a b b' v x : Int} (h : Did kind w w' d g T N m F c a b' v x) (hk : ∀ y, act kind a b' y = act kind a b y) : Did kind w w' d g T N m F c a b v x :=
  ⟨fun ht => by rw [← hk]; exact h.yes ht, h.no, h.fr⟩

set_option maxRecDepth 100000 in
set_option maxHeartbeats 2000000 in
theorem call_any (h : Aw w d g T N m F) (o : OpR) (ho : o.ok) (hk : 1 ≤ o.k ∧ o.k ≤ 4) (hm : 0 ≤ m ∧ m < 4611686018427387904) :
    Calls Tryd.prog 27 #[.pointer (some ⟨d, 0, none⟩), opV o.k o.c o.a o.b] w fun e w' => ∃ v x, e = .returned (.tuple #[.int .u64 v, .int .i64 x]) ∧ Did o.k.toNat w w' d g T N m F o.c o.a o.b v x := by
  obtain ⟨h1, h2, h3, h4⟩ := ho
  obtain ⟨k, c, a, b⟩ := o
  simp only at *
  have hA : ∀ k, Aw (w.alloc (opC k c a b)) d g T N m F := fun k => h.same (blk_alloc _ _ _ h.ab.lt) (blk_alloc _ _ _ h.nb.lt)
  have hcase : k = 1 ∨ k = 2 ∨ k = 3 ∨ k = 4 := by omega
  clear h1 hk
  rcases hcase with rfl | rfl | rfl | rfl
  · have HL := hide2 (Load_any (hA 1) c hm)
    clear hA h
    go_enter Tryd.func27, Tryd.ntmps27
    go_wp2_with fail
    refine HL.out.mono ?_
    rintro e w' ⟨v, x, rfl, hD⟩
    clear HL
    go_wp2
    go_ret2
    refine ⟨v, x, rfl, Did.alloc (o := opC 1 c a b) ⟨fun ht => ?_, hD.no, hD.fr⟩⟩
    exact hD.yes ht
  · have HL := hide2 (Store_any (hA 2) c a h3 hm)
    clear hA h
    go_enter Tryd.func27, Tryd.ntmps27
    go_wp2_with fail
    refine HL.out.mono ?_
    rintro e w' ⟨v, x, rfl, hD⟩
    clear HL
    go_wp2
    go_ret2
    refine ⟨0, x, rfl, Did.alloc (o := opC 2 c a b) ⟨fun ht => ?_, fun ht => ?_, hD.fr⟩⟩
    · obtain ⟨_, hx, hA⟩ := hD.yes ht
      exact ⟨rfl, hx, hA⟩
    · obtain ⟨_, hx, hA⟩ := hD.no ht
      exact ⟨rfl, hx, hA⟩
  · have HL := hide2 (CAS_any (hA 3) c a b h3 h4 hm)
    clear hA h
    go_enter Tryd.func27, Tryd.ntmps27
    go_wp2_with fail
    refine HL.out.mono ?_
    rintro e w' ⟨v, x, rfl, hD⟩
    clear HL
    have hv : v = 0 ∨ v = 1 := by
      cases ht : tk T c with
      | true =>
        obtain ⟨hv, _⟩ := hD.yes ht
        rw [hv]
        unfold act
        rw [if_neg (by decide), if_neg (by decide), if_pos rfl]
        split
        · exact .inr rfl
        · exact .inl rfl
      | false => exact .inl (hD.no ht).1
    have HD := hide2 hD
    clear hD
    rcases hv with rfl | rfl
    · go_wp2
      go_ret2
      exact ⟨0, x, rfl, Did.alloc HD.out⟩
    · go_wp2
      go_ret2
      exact ⟨1, x, rfl, Did.alloc HD.out⟩
  · have HL := hide2 (Add_any (hA 4) c a h3 hm)
    clear hA h
    go_enter Tryd.func27, Tryd.ntmps27
    go_wp2_with fail
    refine HL.out.mono ?_
    rintro e w' ⟨v, x, rfl, hD⟩
    clear HL
    go_wp2
    go_ret2
    refine ⟨v, x, rfl, Did.alloc (o := opC 4 c a b) ⟨fun ht => ?_, hD.no, hD.fr⟩⟩
    exact hD.yes ht
end

/-- What a step leaves of both. -/
def Both (w w' : World) (d g B r n : Nat) (m : Int) : Prop := (∃ T N R H m', Jn w' d g B r n T N R H m' ∧ m ≤ m' ∧ m' ≤ m + 1) ∧ Fr (fun j => j = d ∨ j = g ∨ B ≤ j) w w'

theorem fr_a {d g B : Nat} {w w' : World} (h : Fr (fun j => j = d ∨ j = g) w w') : Fr (fun j => j = d ∨ j = g ∨ B ≤ j) w w' := h.mono (fun j _ hj => by omega)
theorem fr_r {d g B : Nat} {w w' : World} (h : Fr (fun j => B ≤ j) w w') : Fr (fun j => j = d ∨ j = g ∨ B ≤ j) w w' := h.mono (fun j _ hj => .inr (.inr hj))
theorem Aw.frR {w w' : World} {d g B : Nat} {T : List Bool} {N : List Int} {m : Int} {F : List Nat} (h : Aw w d g T N m F) (k : Fr (fun j => B ≤ j) w w') (hd : d < B) (hg : g < B) : Aw w' d g T N m F := h.fr k (by omega) (by omega)

section
variable {w : World} {d g B r n : Nat} {T R : List Bool} {N H : List Int} {m : Int}

/-- Both are asked the same: what they answer is the same. -/
theorem both_do {w1 w2 : World} (h : Jn w d g B r n T N R H m) {F : List Nat} {hv tv : Value} (o : OpR) (hk : 1 ≤ o.k ∧ o.k ≤ 4) {v x v' x' : Int} (hD : Did o.k.toNat w w1 d g T N m F o.c o.a o.b v x) (hR : RDid w2 B r n R H m hv tv o v' x') (hF : Fr (fun k => B ≤ k) w1 w2) :
    v = v' ∧ x = x' ∧ Both w w2 d g B r n m := by
  have hlo := h.lo
  have hF1 : Fr (fun j => j = d ∨ j = g ∨ B ≤ j) w w2 := (fr_a hD.fr).trans (fr_r (d := d) (g := g) hF) (fun j hj => .inl hj)
  have hsz : B ≤ w2.heap.size := Nat.le_trans h.hb hF1.size
  cases ht : tk T o.c with
  | true =>
    obtain ⟨e1, e2, hA⟩ := hD.yes ht
    obtain ⟨e3, e4, hRr⟩ := hR.yes hk (by rw [← h.tk]; exact ht)
    have hn : N.getD o.c.toNat 0 = H.getD o.c.toNat 0 := by
      apply h.nh
      have := ht
      rw [h.tk] at this
      unfold tk at this
      rw [Bool.and_eq_true] at this
      exact this.2
    rw [hn] at e1 hA
    refine ⟨by rw [e1, e3], by rw [e2, e4], ⟨_, _, _, _, m + 1, h.put _ _ _ ⟨F, hA.frR hF hlo.1 hlo.2.1⟩ ⟨_, _, hRr⟩ hsz, by omega, by omega⟩, hF1⟩
  | false =>
    obtain ⟨e1, e2, hA⟩ := hD.no ht
    obtain ⟨e3, e4, hRr⟩ := hR.no hk (by rw [← h.tk]; exact ht)
    exact ⟨by rw [e1, e3], by rw [e2, e4], ⟨_, _, _, _, m, h.keep ⟨F, hA.frR hF hlo.1 hlo.2.1⟩ ⟨_, _, hRr⟩ hsz, by omega, by omega⟩, hF1⟩

theorem Both.alloc {w' : World} {o : Obj} (h : Both (w.alloc o) w' d g B r n m) : Both w w' d g B r n m := ⟨h.1, Fr.trans ((Fr.refl _ w).alloc o) h.2 (fun j hj => .inl hj)⟩

abbrev stepV (s : StepR) : Value := .agg #[.int .i64 s.kind, .int .i64 s.op.k, .int .i64 s.op.c, .int .u64 s.op.a, .int .u64 s.op.b]
abbrev stepC (s : StepR) : Obj := .cells #[.int .i64 s.kind, .int .i64 s.op.k, .int .i64 s.op.c, .int .u64 s.op.a, .int .u64 s.op.b] 36

/-- The step's own cells, behind what is done to an arena. -/
theorem box_kept {w1 : World} {d g B : Nat} (s : StepR) (hb : B ≤ w.heap.size) (hd : d < B) (hg : g < B) (hF : Fr (fun j => j = d ∨ j = g) (w.alloc (stepC s)) w1) :
    w1.cell? ⟨w.heap.size, 0, none⟩ = some (.int .i64 s.kind) ∧ w1.cell? ⟨w.heap.size, 1, none⟩ = some (.int .i64 s.op.k) ∧ w1.cell? ⟨w.heap.size, 2, none⟩ = some (.int .i64 s.op.c) ∧ w1.cell? ⟨w.heap.size, 3, none⟩ = some (.int .u64 s.op.a) ∧ w1.cell? ⟨w.heap.size, 4, none⟩ = some (.int .u64 s.op.b) := by
  have hblk := (hF.block w.heap.size (by simp) (by omega)).trans (heap_alloc_new w (stepC s))
  refine ⟨?_, ?_, ?_, ?_, ?_⟩ <;> (rw [Go.Joins.cell_of_block hblk]; rfl)

set_option maxRecDepth 100000 in
set_option maxHeartbeats 2000000 in
/-- A step by Do. -/
theorem does_op (h : Jn w d g B r n T N R H m) (s : StepR) (hs : s.ok) (hk : s.kind = 3) (hm : 0 ≤ m ∧ m < 4611686018427387904) :
    Calls Tryd.prog 12 #[.pointer (some ⟨d, 0, none⟩), .pointer (some ⟨r, 0, none⟩), stepV s] w fun e w' => e = .returned (.bool true) ∧ Both w w' d g B r n m := by
  obtain ⟨kind, o⟩ := s
  simp only at hk
  subst hk
  have hb0 := h.hb
  have h1 := h.alloc (stepC ⟨3, o⟩)
  obtain ⟨F, hA⟩ := h1.a
  obtain ⟨hv, tv, hR⟩ := h1.r
  have hlo := h1.lo
  have hhb := h1.hb
  have HD := hide2 (Do_any hA o hs.2 hm)
  have HR := hide2 hR
  have HJ := hide2 h1
  have HO := hide2 hs
  clear hR h1 h hA hs
  go_enter Tryd.func12, Tryd.ntmps12
  go_wp2_with fail
  refine HD.out.mono ?_
  rintro e w1 ⟨v, x, rfl, hF1, hcase⟩
  have hR1 := HR.out.fr hF1 hlo.1 hlo.2.1
  obtain ⟨z0, z1, z2, z3, z4⟩ := box_kept ⟨3, o⟩ hb0 hlo.1 hlo.2.1 hF1
  have HD2 := hide2 (refDo_any hR1 (Nat.le_trans hhb hF1.size) o HO.out.2 hm)
  have HC := hide2 hcase
  have HF1 := hide2 hF1
  clear HD hR1 hcase hF1
  go_wp2_with fail
  refine HD2.out.mono ?_
  rintro e w2 ⟨v', x', rfl, hRD, hF2⟩
  have hfin : v = v' ∧ x = x' ∧ Both (w.alloc (stepC ⟨3, o⟩)) w2 d g B r n m := by
    rcases HC.out with ⟨k1, k2, hD⟩ | ⟨hk, rfl, rfl, hA2⟩
    · exact both_do HJ.out o ⟨k1, k2⟩ hD hRD hF2
    · obtain ⟨rfl, rfl, hR2⟩ := hRD.bad hk
      have hF3 : Fr (fun j => j = d ∨ j = g ∨ B ≤ j) (w.alloc (stepC ⟨3, o⟩)) w2 := (fr_a HF1.out).trans (fr_r (d := d) (g := g) hF2) (fun j hj => .inl hj)
      exact ⟨rfl, rfl, ⟨_, _, _, _, m, HJ.out.keep ⟨F, hA2.frR hF2 hlo.1 hlo.2.1⟩ ⟨_, _, hR2⟩ (Nat.le_trans hhb hF3.size), by omega, by omega⟩, hF3⟩
  obtain ⟨rfl, rfl, hBt⟩ := hfin
  clear HD2 HC HF1 hRD hF2 HR HJ HO z0 z1 z2 z3 z4
  go_wp2
  go_ret
  exact ⟨rfl, hBt.alloc⟩

set_option maxRecDepth 100000 in
set_option maxHeartbeats 2000000 in
/-- A step by the operation's own call. -/
theorem does_call (h : Jn w d g B r n T N R H m) (s : StepR) (hs : s.ok) (hk : s.kind = 4) (hm : 0 ≤ m ∧ m < 4611686018427387904) :
    Calls Tryd.prog 12 #[.pointer (some ⟨d, 0, none⟩), .pointer (some ⟨r, 0, none⟩), stepV s] w fun e w' => e = .returned (.bool true) ∧ Both w w' d g B r n m := by
  obtain ⟨kind, o⟩ := s
  simp only at hk
  subst hk
  have hb0 := h.hb
  have h1 := h.alloc (stepC ⟨4, o⟩)
  have F0 : Fr (fun j => j = d ∨ j = g ∨ B ≤ j) w (w.alloc (stepC ⟨4, o⟩)) := (Fr.refl _ w).alloc _
  by_cases hk : 1 ≤ o.k ∧ o.k ≤ 4
  · obtain ⟨F, hA⟩ := h1.a
    obtain ⟨hv, tv, hR⟩ := h1.r
    have hlo := h1.lo
    have hhb := h1.hb
    have t1 : decide (o.k < 1) = false := by simp; omega
    have t2 : decide (4 < o.k) = false := by simp; omega
    have HD := hide2 (call_any hA o hs.2 hk hm)
    have HR := hide2 hR
    have HJ := hide2 h1
    have HO := hide2 hs
    have HK := hide2 hk
    clear hR h1 h hA hs hk F0
    go_enter Tryd.func12, Tryd.ntmps12
    go_wp2_with fail
    refine HD.out.mono ?_
    rintro e w1 ⟨v, x, rfl, hD⟩
    have hF1 := hD.fr
    have hR1 := HR.out.fr hF1 hlo.1 hlo.2.1
    obtain ⟨z0, z1, z2, z3, z4⟩ := box_kept ⟨4, o⟩ hb0 hlo.1 hlo.2.1 hF1
    have HD2 := hide2 (refDo_any hR1 (Nat.le_trans hhb hF1.size) o HO.out.2 hm)
    have HC := hide2 hD
    clear HD hR1 hD hF1
    go_wp2_with fail
    refine HD2.out.mono ?_
    rintro e w2 ⟨v', x', rfl, hRD, hF2⟩
    obtain ⟨rfl, rfl, hBt⟩ := both_do HJ.out o HK.out HC.out hRD hF2
    clear HD2 HC hRD hF2 HR HJ HO z0 z1 z2 z3 z4
    go_wp2
    go_ret
    exact ⟨rfl, hBt.alloc⟩
  · by_cases h2 : o.k < 1
    · have t1 : decide (o.k < 1) = true := by simpa using h2
      have HJ := hide2 h1
      clear h1 h hs hk
      go_enter Tryd.func12, Tryd.ntmps12
      go_wp2
      go_ret
      exact ⟨rfl, ⟨_, _, _, _, m, HJ.out, by omega, by omega⟩, F0⟩
    · have t1 : decide (o.k < 1) = false := by simpa using h2
      have t2 : decide (4 < o.k) = true := by simp; omega
      have HJ := hide2 h1
      clear h1 h hs hk
      go_enter Tryd.func12, Tryd.ntmps12
      go_wp2
      go_ret
      exact ⟨rfl, ⟨_, _, _, _, m, HJ.out, by omega, by omega⟩, F0⟩

set_option maxRecDepth 100000 in
set_option maxHeartbeats 2000000 in
/-- A step that is none. -/
theorem does_none (h : Jn w d g B r n T N R H m) (s : StepR) (hk : s.kind < 1 ∨ 4 < s.kind) :
    Calls Tryd.prog 12 #[.pointer (some ⟨d, 0, none⟩), .pointer (some ⟨r, 0, none⟩), stepV s] w fun e w' => e = .returned (.bool true) ∧ Both w w' d g B r n m := by
  have h1 := h.alloc (stepC s)
  have F0 : Fr (fun j => j = d ∨ j = g ∨ B ≤ j) w (w.alloc (stepC s)) := (Fr.refl _ w).alloc _
  have t1 : (s.kind == 1) = false := by simp; omega
  have t2 : (s.kind == 2) = false := by simp; omega
  have t3 : (s.kind == 3) = false := by simp; omega
  have t4 : (s.kind == 4) = false := by simp; omega
  have HJ := hide2 h1
  clear h1 h hk
  go_enter Tryd.func12, Tryd.ntmps12
  go_wp2
  go_ret
  exact ⟨rfl, ⟨_, _, _, _, m, HJ.out, by omega, by omega⟩, F0⟩

set_option maxRecDepth 100000 in
set_option maxHeartbeats 2000000 in
/-- A step that frees a cell. -/
theorem does_free (h : Jn w d g B r n T N R H m) (s : StepR) (hk : s.kind = 2) :
    Calls Tryd.prog 12 #[.pointer (some ⟨d, 0, none⟩), .pointer (some ⟨r, 0, none⟩), stepV s] w fun e w' => e = .returned (.bool true) ∧ Both w w' d g B r n m := by
  obtain ⟨kind, o⟩ := s
  simp only at hk
  subst hk
  have hb0 := h.hb
  have h1 := h.alloc (stepC ⟨2, o⟩)
  obtain ⟨F, hA⟩ := h1.a
  obtain ⟨hv, tv, hR⟩ := h1.r
  have hlo := h1.lo
  have hhb := h1.hb
  cases ht : tk T o.c with
  | true =>
    obtain ⟨c0, c1⟩ := tk_lt ht
    obtain ⟨ok, oc, oa, ob⟩ := o
    simp only at ht c0 c1
    obtain ⟨c, rfl⟩ : ∃ c : Nat, oc = c := ⟨oc.toNat, by omega⟩
    have ht2 : tk R c = true := by rw [← h1.tk]; exact ht
    have HD := hide2 (Free_in hA c ht)
    have HR := hide2 hR
    have HJ := hide2 h1
    clear hR h1 h hA c0 c1
    go_enter Tryd.func12, Tryd.ntmps12
    go_wp2_with fail
    refine HD.out.mono ?_
    rintro e w1 ⟨rfl, hA1, hF1⟩
    have hR1 := HR.out.fr hF1 hlo.1 hlo.2.1
    obtain ⟨z0, z1, z2, z3, z4⟩ := box_kept ⟨2, ⟨ok, c, oa, ob⟩⟩ hb0 hlo.1 hlo.2.1 hF1
    have HD2 := hide2 (refFree_in hR1 c ht2)
    clear HD
    go_wp2_with fail
    refine HD2.out.mono ?_
    rintro e w2 ⟨rfl, hR2, hF2⟩
    have hF3 : Fr (fun j => j = d ∨ j = g ∨ B ≤ j) (w.alloc (stepC ⟨2, ⟨ok, c, oa, ob⟩⟩)) w2 := (fr_a hF1).trans (fr_r (d := d) (g := g) hF2) (fun j hj => .inl hj)
    have hBt : Both (w.alloc (stepC ⟨2, ⟨ok, c, oa, ob⟩⟩)) w2 d g B r n m := by
      have hJ := HJ.out
      refine ⟨⟨T.set c false, N, R.set c false, H, m, ⟨⟨_, hA1.frR hF2 hlo.1 hlo.2.1⟩, ⟨_, _, hR2⟩, by simpa using hJ.tl, fun i => ?_, fun i hi => ?_, hJ.lo, Nat.le_trans hhb hF3.size⟩, by omega, by omega⟩, hF3⟩
      · have l1 := (tk_lt ht).2
        have l2 := (tk_lt ht2).2
        simp only [Int.toNat_natCast] at l1 l2
        rw [getD_set, getD_set]
        by_cases hic : i = c
        · rw [if_pos ⟨hic, l1⟩, if_pos ⟨hic, l2⟩]
        · rw [if_neg (fun e => hic e.1), if_neg (fun e => hic e.1)]
          exact hJ.eq i
      · rw [getD_set] at hi
        split at hi
        · cases hi
        · exact hJ.nh i hi
    clear HD2 HR HJ z0 z1 z2 z3 z4 hR1 hR2 hA1 hF1 hF2 hF3
    go_wp2
    go_ret
    exact ⟨rfl, hBt.alloc⟩
  | false =>
    have ht2 : tk R o.c = false := by rw [← h1.tk]; exact ht
    have HD := hide2 (Free_out hA o.c ht)
    have HR := hide2 hR
    have HJ := hide2 h1
    have HA := hide2 hA
    clear hR h1 h hA
    go_enter Tryd.func12, Tryd.ntmps12
    go_wp2_with fail
    refine HD.out.mono ?_
    rintro e w1 ⟨rfl, q, rfl⟩
    have hF1 : Fr (fun j => j = d ∨ j = g) (w.alloc (stepC ⟨2, o⟩)) ((w.alloc (stepC ⟨2, o⟩)).drewN q) := (Fr.refl _ _).drewN q
    have hR1 := HR.out.fr hF1 hlo.1 hlo.2.1
    obtain ⟨z0, z1, z2, z3, z4⟩ := box_kept ⟨2, o⟩ hb0 hlo.1 hlo.2.1 hF1
    have HD2 := hide2 (refFree_out hR1 o.c ht2)
    clear HD
    go_wp2_with fail
    refine HD2.out.mono ?_
    rintro e w2 ⟨rfl, rfl⟩
    have hBt : Both (w.alloc (stepC ⟨2, o⟩)) ((w.alloc (stepC ⟨2, o⟩)).drewN q) d g B r n m := ⟨⟨_, _, _, _, m, HJ.out.keep ⟨_, HA.out.same rfl rfl⟩ ⟨_, _, hR1⟩ hhb, by omega, by omega⟩, fr_a hF1⟩
    clear HD2 HR HJ z0 z1 z2 z3 z4 hR1 hF1 HA
    go_wp2
    go_ret
    exact ⟨rfl, hBt.alloc⟩
end
end Go.Proofs.YtiflchilmogdoaaDoor
