/-
  Put.
-/
import Derived.Test.YtgifcgniphncdaaGreatDoorPk30
import Derived.Test.YtgifcgniphncdaaGreatDoorPk35
import Derived.Test.YtgifcgniphncdaaGreatDoorPk26
import Derived.BigQuiet
set_option linter.unusedVariables false
set_option linter.unusedSimpArgs false
namespace Go.Proofs.YtgifcgniphncdaaGreatDoor
open Go.RowKit Go.Maps

theorem cmb_byt {c : Cm} (h : rightC c = true) : Byt (cmb c) := by
  simp only [rightC, isT, Bool.and_eq_true, decide_eq_true_eq] at h
  exact Byt.cons (by omega) ((enc_byt _ h.1.1.1).append ((enc_byt _ (Int.natCast_nonneg _)).append (flat_byt wb _ (fun y _ => wb_byt y))))
theorem cmb_len {c : Cm} (h : rightC c = true) : (cmb c).length ≤ 65536 := by
  simp only [rightC, Bool.and_eq_true, decide_eq_true_eq] at h
  obtain ⟨⟨_, h64⟩, hup⟩ := h
  have h1 := flat_len wb c.ws 101 (fun x hx => wb_len x (upW_mem c.ws _ hup x hx))
  have h2 := enc_len c.time
  have h3 := enc_len c.ws.length
  simp only [cmb, List.length_cons, List.length_append]
  omega
theorem row_one {w : World} {B n : Nat} {e : TypeId} {v : Value} {xs : List Value} {k : Nat} (h : w.ownsRow B e k v (n + 1) xs) : ∃ g cap, v = .slice (some ⟨g, 0, none⟩) (n + 1) cap := by
  rcases h.2 with ⟨rfl, e⟩ | ⟨g, cap, cur, rfl, _⟩
  · omega
  · exact ⟨g, cap, rfl⟩
/-- Rows of elements of other types are other blocks. -/
theorem rows_ne {w : World} {B B' n m k k' : Nat} {e e' : TypeId} {u v : Value} {xs ys : List Value} (h : w.ownsRow B e k v n xs) (h' : w.ownsRow B' e' k' u m ys) (hne : e ≠ e') : ∀ g, v.ownBlock = some g → u.ownBlock ≠ some g := by
  intro g e1 e2
  rcases h.2 with ⟨rfl, _⟩ | ⟨g1, c1, cur1, rfl, _, hh1, _⟩
  · cases e1
  · rcases h'.2 with ⟨rfl, _⟩ | ⟨g2, c2, cur2, rfl, _, hh2, _⟩
    · cases e2
    · simp only [Value.ownBlock, Option.some.injEq] at e1 e2
      subst e1
      subst e2
      rw [hh1] at hh2
      simp at hh2
      exact hne hh2.2
/-- One more body waits. -/
theorem Wt.push {w w' : World} {A A' : Nat → Prop} {v v' u : Value} {bs : List (List Int)} {x : List Int} {cs : List Value} (h1 : w.ownsRow 0 40 1 v bs.length cs) (h3 : ∀ (i : Nat) (x : List Int), bs[i]? = some x → ∃ u, cs[i]? = some u ∧ Own w 0 u x ∧ Byt x ∧ ∀ g, u.ownBlock = some g → A g)
    (hu : Own w 0 u x) (hx : Byt x) (hua : ∀ g, u.ownBlock = some g → A g) (hg : w.grownBy w' v.ownBlock) (hr : w'.ownsRow 0 40 1 v' (bs.length + 1) (cs ++ [u])) (hv : ∀ g, v'.ownBlock = some g → A g) : Wt w' A v' (bs ++ [x]) := by
  have keep : ∀ (y : Value) (l : List Int), Own w 0 y l → Own w' 0 y l := fun y l hy => row_on hy (fun j e => hg.block j (World.ownsRow.lt hy j e).2 (fun e2 => rows_ne h1 hy (by decide) j e2.symm e))
  have hcl : cs.length = bs.length := by simpa using h1.1
  refine ⟨cs ++ [u], by simpa using hr, hv, fun i y hy => ?_⟩
  by_cases hi : i < bs.length
  · rw [List.getElem?_append_left hi] at hy
    obtain ⟨z, q1, q2, q3, q4⟩ := h3 i y hy
    exact ⟨z, by rw [List.getElem?_append_left (by omega)]; exact q1, keep _ _ q2, q3, q4⟩
  · rw [List.getElem?_append_right (by omega)] at hy
    have hi0 : i - bs.length = 0 := by
      rcases Nat.eq_zero_or_pos (i - bs.length) with e | e
      · exact e
      · rw [List.getElem?_eq_none (by simp; omega)] at hy; cases hy
    rw [hi0] at hy
    simp only [List.getElem?_cons_zero, Option.some.injEq] at hy
    subst hy
    exact ⟨u, by rw [List.getElem?_append_right (by omega), show i - cs.length = 0 from by omega]; rfl, keep _ _ hu, hx, hua⟩

section
variable {w w' w1 : World} {B : Nat} {A D : Nat → Prop} {l d : Nat} {v v' : Value} {S S' : Dsk} {L L' : Lg} {N : Nat}

set_option maxRecDepth 100000 in
set_option maxHeartbeats 4000000 in
theorem walPut_any (h : PM w B A l d S L N) (hN : N < 1000000) {ao : Option Addr} {len cap : Nat} {ws : List Wr} (hs : Seq 3 Wr.cells w ao len cap ws) (t : Int) :
    Calls Tryz.prog 33 #[.pointer (some ⟨l, 0, none⟩), .agg #[.int .i64 t, .slice ao len cap]] w fun e w' => e = .returned (.tuple #[.int .i64 (L.put ⟨t, ws⟩).1.1, .int .i64 (L.put ⟨t, ws⟩).1.2]) ∧ PM w' B (Land.more A w w') l d S (L.put ⟨t, ws⟩).2 (N + 1) ∧ Fr A w w' := by
  obtain ⟨i0, hi, hz0, hz1, hz2⟩ := info_parts Tryz.info22
  have b0 : Below w.heap.size w (w.alloc (.cells #[.int .i64 t, .slice ao len cap] 37)) := (Below.refl _ _).alloc (Nat.le_refl _) _
  have z0 : (w.alloc (.cells #[.int .i64 t, .slice ao len cap] 37)).heap.size = w.heap.size + 1 := by simp
  have k0 := heap_alloc_new w (.cells #[.int .i64 t, .slice ao len cap] 37)
  have c0 : (w.alloc (.cells #[.int .i64 t, .slice ao len cap] 37)).cell? ⟨w.heap.size, 0, none⟩ = some (.int .i64 t) := by rw [Go.Joins.cell_of_block k0]; rfl
  have c1 : (w.alloc (.cells #[.int .i64 t, .slice ao len cap] 37)).cell? ⟨w.heap.size, 1, none⟩ = some (.slice ao len cap) := by rw [Go.Joins.cell_of_block k0]; rfl
  have HRf := hid8 (pmRefuses_any (h.below b0))
  have HPC := hid8 (PutCommit_any t (hs.keep b0))
  have HH := hid8 (h.below b0)
  have HA := hid8 h.lo
  have hBw := h.bw
  have HB0 := hid8 b0
  generalize hF : L.put ⟨t, ws⟩ = F0
  have HF := hid8 hF
  have HUP : Hid (∀ w2 : World, Below w.heap.size w w2 → PM w2 B (Land.more A w w2) l d S L (N + 1)) := hid8 (fun w2 hb => by
    obtain ⟨q1, q2, q3, q4, q5, ⟨o1, o2, o3, o4, o5, o6, o7, o8⟩⟩ := h.below hb
    exact PM.mono ⟨q1, q2, q3, q4, q5, ⟨o1, o2, o3, o4, o5, by omega, by omega, o8⟩⟩ (fun j hj => .inl hj) (fun j hj => by
      rcases hj with hj | hj
      · exact q3 j hj
      · exact ⟨by have := hj.1; omega, hj.2⟩))
  clear hF h hs b0 k0
  by_cases ho : L.over = 0
  · rw [ho] at HRf
    cases hr : rightC ⟨t, ws⟩ with
    | true =>
      have eF : Hid (F0 = ((((L.done + L.grp + L.wait.length + 1 : Nat) : Int), 0), { L with wait := L.wait ++ [cmb ⟨t, ws⟩] })) := hid8 (by rw [← HF.out]; unfold Lg.put; rw [if_neg (by omega), if_pos hr])
      rw [hr] at HPC
      go_enter Tryz.func33, Tryz.ntmps33
      go_wp2_with fail
      refine HRf.out.mono ?_
      rintro e w1 ⟨rfl, rfl⟩
      clear HRf
      go_wp2_with fail
      refine HPC.out.mono ?_
      rintro e w1 ⟨u, rfl, hu, hb1⟩
      have e0 : er true = 0 := rfl
      rw [e0]
      have hcb := cmb_byt hr
      have hcl := cmb_len hr
      obtain ⟨au, cu, rfl, -, lou⟩ := Own.sl (xs := cmb ⟨t, ws⟩) hu hcb
      have HU : Hid (Own w1 w.heap.size (.slice au (cmb ⟨t, ws⟩).length cu) (cmb ⟨t, ws⟩)) := hid8 (Own.low hu (by omega))
      have hzz1 := hb1.size
      have HB1 := hid8 (HB0.out.trans (hb1.mono (by omega)))
      obtain ⟨⟨D, v, d1, d2, d3, d4⟩, hal, hA1, hB1, hg1, ⟨o1, o2, o3, o4, o5, o6, o7, o8⟩⟩ := HH.out.below hb1
      obtain ⟨cs, r1, r2, r3⟩ := d3
      clear HPC hu hb1 HH lou
      -- behind the new cell
      have bA : Below w1.heap.size w1 (w1.alloc (.cells #[.slice au (cmb ⟨t, ws⟩).length cu] 40)) := (Below.refl _ _).alloc (Nat.le_refl _) _
      have zA : (w1.alloc (.cells #[.slice au (cmb ⟨t, ws⟩).length cu] 40)).heap.size = w1.heap.size + 1 := by simp
      have HNW := hid8 (cell_one_new w1 (.slice au (cmb ⟨t, ws⟩).length cu) 40)
      have m2 := d2.below bA
      obtain ⟨t1, t2, t3, t4, t5, t6, t7, t8⟩ := m2.cells
      obtain ⟨y1, y2, y3, y4, y5, y6, y7, y8⟩ := d2.cells
      have hlw := hA1 l hal
      have hvl : ∀ g, v.ownBlock = some g → g ≠ l := fun g e => (r2 g e).2.2
      have hvo : v.ownBlock ≠ some l := fun e => hvl l e rfl
      have HR1 : Hid ((w1.alloc (.cells #[.slice au (cmb ⟨t, ws⟩).length cu] 40)).ownsRow 0 40 1 v L.wait.length cs) := hid8 (row_on r1 fun j e => bA.block j (World.ownsRow.lt r1 j e).2)
      generalize hcbl : cmb ⟨t, ws⟩ = bx at *
      have D1 := hid8 d1
      have D2 := hid8 d2
      have R2 := hid8 r2
      have R3 := hid8 r3
      have D4 := hid8 d4
      have HG := hid8 hg1
      clear d1 d2 r1 r2 r3 d4 hg1 hA1 hvl m2 c0 c1
      go_wp2_with (first | (at_builtin; refine Hid.out ?_) | fail)
      refine hid8 ?_
      refine wpList_append_own_at _ rfl _ _ 90 rfl 0 40 i0 (.slice none 0 0) 1 24 Tryz.underlying90 hi hz0 hz1 hz2 rfl (by decide) v L.wait.length cs rfl HR1.out ⟨w1.heap.size, 0, none⟩ 1 1 [.slice au bx.length cu] rfl rfl HNW.out (by intro u hu; simp at hu; subst hu; rfl) (by unfold maxLen; omega) (by omega) (Nat.zero_le _) ?_
      intro v' w3 hown hgrow _ hat
      have hz3 : w1.heap.size + 1 ≤ w3.heap.size := by have := hgrow.size; omega
      have hblk : w3.heap[l]? = (w1.alloc (.cells #[.slice au bx.length cu] 40)).heap[l]? := hgrow.block l (by omega) (fun e => hvo e.symm)
      have m3 : Lm w3 l d v L := (D2.out.below bA).same hblk
      obtain ⟨g, cap3, rfl⟩ := row_one hown
      have m4 : Lm (w3.setCell ⟨l, 3, none⟩ (.slice (some ⟨g, 0, none⟩) (L.wait.length + 1) cap3)) l d (.slice (some ⟨g, 0, none⟩) (L.wait.length + 1) cap3) { L with wait := L.wait ++ [bx] } := (Go.Joins.block_setCell m3 _).trans rfl
      have hg2 : g < w3.heap.size := (World.ownsRow.lt hown g rfl).2
      have hgl : w1.heap.size ≤ g ∨ v.ownBlock = some g := by
        rcases hat with e | e
        · exact .inr e.symm
        · left
          simp only [Value.ownBlock, Option.some.injEq] at e
          omega
      have F3 : Fr (fun j => v.ownBlock = some j) w1 w3 := ((Fr.refl _ w1).trans (Fr.below bA) (fun j e => .inl e)).trans (Fr.grown (F := fun j => v.ownBlock = some j) hgrow (fun j e => e)) (fun j e => .inl e)
      have F4 : Fr (fun j => v.ownBlock = some j ∨ j = l) w1 (w3.setCell ⟨l, 3, none⟩ (.slice (some ⟨g, 0, none⟩) (L.wait.length + 1) cap3)) := (F3.mono (fun j _ e => .inl e)).setCell (p := ⟨l, 3, none⟩) (.inl (.inr rfl)) _
      have z4 : (w3.setCell ⟨l, 3, none⟩ (.slice (some ⟨g, 0, none⟩) (L.wait.length + 1) cap3)).heap.size = w3.heap.size := by simp [World.setCell]
      have hlt1 : ∀ j, A j → j < w.heap.size := fun j hj => (HA.out j hj).2
      have W3 : Wt w3 (fun j => Land.more A w w3 j ∧ ¬ D j ∧ j ≠ l) (.slice (some ⟨g, 0, none⟩) (L.wait.length + 1) cap3) (L.wait ++ [bx]) := by
        refine Wt.push (A := fun j => Land.more A w w3 j ∧ ¬ D j ∧ j ≠ l) (A' := A) (w := w1.alloc (.cells #[.slice au bx.length cu] 40)) HR1.out (fun i x hx => ?_) (row_on (HU.out.low (Nat.zero_le _)) fun j e => bA.block j (World.ownsRow.lt HU.out j e).2) hcb (fun j e => ?_) hgrow hown (fun j e => ?_)
        · obtain ⟨u, q1, q2, q3, q4⟩ := R3.out i x hx
          exact ⟨u, q1, row_on q2 fun j e => bA.block j (World.ownsRow.lt q2 j e).2, q3, fun j e => ⟨.inl (q4 j e).1, (q4 j e).2⟩⟩
        · have := World.ownsRow.lt HU.out j e
          exact ⟨.inr ⟨this.1, by omega⟩, fun k => by have := hlt1 j (D4.out j k).1; omega, fun k => by have := hlt1 l hal; omega⟩
        · simp only [Value.ownBlock, Option.some.injEq] at e
          subst e
          rcases hgl with e | e
          · exact ⟨.inr ⟨by omega, hg2⟩, fun k => by have := hlt1 g (D4.out g k).1; omega, fun k => by have := hlt1 l hal; omega⟩
          · exact ⟨.inl (R2.out g e).1, (R2.out g e).2⟩
      have P4 : PM (w3.setCell ⟨l, 3, none⟩ (.slice (some ⟨g, 0, none⟩) (L.wait.length + 1) cap3)) B (Land.more A w (w3.setCell ⟨l, 3, none⟩ (.slice (some ⟨g, 0, none⟩) (L.wait.length + 1) cap3))) l d S { L with wait := L.wait ++ [bx] } (N + 1) := by
        refine ⟨⟨D, _, D1.out.keep F4 (fun j hj e => ?_), m4, (Wt.same W3 (fun j hj => Below.heap_setCell _ _ _ _ hj.2.2)).mono (fun j _ hj => ⟨?_, hj.2⟩), fun j hj => ⟨.inl (D4.out j hj).1, (D4.out j hj).2⟩⟩, .inl hal, fun j hj => ?_, by omega, HG.out.on (F4.to (fun k hk e => ?_) (by omega)), ⟨o1, o2, o3, o4, o5, ?_, by omega, ?_⟩⟩
        · rcases e with e | e
          · exact (R2.out j e).2.1 hj
          · exact (D4.out j hj).2 e
        · rcases hj.1 with q | q
          · exact .inl q
          · exact .inr ⟨q.1, by omega⟩
        · rcases hj with q | q
          · exact ⟨(HA.out j q).1, by have := hlt1 j q; omega⟩
          · exact ⟨by have := q.1; omega, q.2⟩
        · rcases e with e | e
          · have := (HA.out k (R2.out k e).1).1; omega
          · have := (HA.out l hal).1; omega
        · show L.done + L.grp + (L.wait ++ [bx]).length ≤ N + 1
          rw [List.length_append, List.length_singleton]
          omega
        · intro b hb
          rcases List.mem_append.1 hb with hb | hb
          · exact o8 b hb
          · simp only [List.mem_singleton] at hb
            subst hb
            exact ⟨hcl, hcb⟩
      have HP4 := hid8 P4
      have HF4 : Hid (Fr A w (w3.setCell ⟨l, 3, none⟩ (.slice (some ⟨g, 0, none⟩) (L.wait.length + 1) cap3))) := hid8 (((Fr.refl A w).trans (Fr.below HB1.out) (fun j e => .inl e)).trans F4 (fun j e => by
        rcases e with e | e
        · exact .inl (R2.out j e).1
        · exact .inl (by rw [e]; exact hal)))
      obtain ⟨x1, x2, x3, x4, x5, x6, x7, x8⟩ := m3.cells
      have f3 := m3.free 3
      have M4 := hid8 m4
      have hw1 : IntKind.i64.wrap ((L.done : Int) + (L.grp : Int)) = (L.done : Int) + (L.grp : Int) := by rw [IntKind.wrap_i64]; omega
      have hw2 : IntKind.i64.wrap ((L.done : Int) + (L.grp : Int) + ((L.wait.length : Int) + 1)) = (L.done : Int) + (L.grp : Int) + ((L.wait.length : Int) + 1) := by rw [IntKind.wrap_i64]; omega
      have hl3 : l < w3.heap.size := by omega
      clear hown hgrow hat W3 P4 F3 F4 m3 m4 HR1 HNW R3 t1 t2 t3 t4 t5 t6 t7 t8 y1 y2 y3 y4 y5 y6 y7 y8 hblk bA
      go_wp2
      generalize hW4 : w3.setCell ⟨l, 3, none⟩ (.slice (some ⟨g, 0, none⟩) (L.wait.length + 1) cap3) = W4 at *
      obtain ⟨x1, x2, x3, x4, x5, x6, x7, x8⟩ := M4.out.cells
      have hl4 : l < W4.heap.size := M4.out.lt
      go_quiet (fail)
      go_wp2
      go_ret2
      rw [eF.out]
      refine ⟨?_, ?_, ?_⟩
      · congr 3
      · exact HP4.out.below ⟨rfl, rfl, rfl, Nat.le_refl _, fun _ _ => rfl⟩
      · exact HF4.out.drewN _
    | false =>
      have eF : Hid (F0 = ((0, 80), L)) := hid8 (by rw [← HF.out]; unfold Lg.put; rw [if_neg (by omega), if_neg (by simp [hr])])
      rw [hr] at HPC
      go_enter Tryz.func33, Tryz.ntmps33
      go_wp2_with fail
      refine HRf.out.mono ?_
      rintro e w1 ⟨rfl, rfl⟩
      clear HRf
      go_wp2_with fail
      refine HPC.out.mono ?_
      rintro e w1 ⟨u, rfl, -, hb1⟩
      have e60 : er false = 60 := rfl
      rw [e60]
      have HB1 := hid8 (HB0.out.trans (hb1.mono (by omega)))
      clear hb1 HPC
      go_wp2
      go_ret2
      rw [eF.out]
      exact ⟨rfl, HUP.out _ HB1.out, Fr.below HB1.out⟩
  · have eF : Hid (F0 = ((0, L.over), L)) := hid8 (by rw [← HF.out]; unfold Lg.put; rw [if_pos ho])
    have hob : (L.over != 0) = true := by simpa using ho
    go_enter Tryz.func33, Tryz.ntmps33
    go_wp2_with fail
    refine HRf.out.mono ?_
    rintro e w1 ⟨rfl, rfl⟩
    clear HRf
    go_wp2
    go_ret2
    rw [eF.out]
    exact ⟨rfl, HUP.out _ HB0.out, Fr.below HB0.out⟩
end
end Go.Proofs.YtgifcgniphncdaaGreatDoor
