/-
  RecordManifests: which manifests are written, and as which bytes.
-/
import Derived.Test.YteihabdldiopeaaE22
import Derived.Test.YteihabdldiopeaaE12b
import Derived.Test.YteihabdldiopeaaE23
set_option linter.unusedVariables false
set_option linter.unusedSimpArgs false
namespace Go.Proofs.Yteihabdldiopeaa
open Go.RowKit Go.Maps

theorem mb_byt {m : Mf} (h : rightM m = true) : Byt (mb m) := by
  obtain ⟨t, lg, ps⟩ := m
  simp only [rightM, isT, isN, Bool.and_eq_true, decide_eq_true_eq] at h
  obtain ⟨⟨⟨⟨ht0, ht1⟩, hn0, hn1⟩, hlen⟩, hup⟩ := h
  have hok := upP_mem ps [] t 0 hup (by omega) ht1
  exact Byt.cons (by omega) ((enc_byt _ ht0).append ((enc_byt _ (show 0 ≤ lg by omega)).append ((enc_byt _ (Int.natCast_nonneg _)).append (flat_byt pb ps (fun p hp => pb_byt p (hok p hp))))))
theorem cb_byt {c : Cm} (h : rightC c = true) : Byt (cb c) := by
  simp only [rightC, isT, Bool.and_eq_true, decide_eq_true_eq] at h
  exact Byt.cons (by omega) ((enc_byt _ h.1.1.1).append ((enc_byt _ (by omega)).append (flat_byt wb _ (fun y _ => wb_byt y))))
theorem bt_byt' (b : Bool) (l : List Int) (h : b = true → Byt l) : Byt (bt b l) := by
  cases b with
  | true => exact h rfl
  | false => exact Byt.nil

theorem flat3_len {α : Type} {f : α → List Value} (hf : ∀ x, (f x).length = 3) : ∀ l : List α, (l.flatMap f).length = l.length * 3
  | [] => rfl
  | x :: l => by
    rw [List.flatMap_cons, List.length_append, hf, flat3_len hf l, List.length_cons]
    omega
/-- The cells of a slice of three cells each. -/
theorem Seq.flat {α : Type} {f : α → List Value} {w : World} {a : Addr} {len cap : Nat} {l : List α} (h : Seq 3 f w (some a) len cap l) (hf : ∀ x, (f x).length = 3) : ∀ j u, (l.flatMap f)[j]? = some u → w.cell? (a.add j) = some u := by
  intro j u hj
  have hlen : (l.flatMap f).length = l.length * 3 := flat3_len hf l
  have hjl := (List.getElem?_eq_some_iff.1 hj).1
  rw [hlen] at hjl
  have hx := h.1
  obtain ⟨b, off, e, hb, hc⟩ := h.2.2.2 (by omega)
  simp only [Option.some.injEq] at e
  subst e
  obtain ⟨x, hi⟩ : ∃ x, l[j / 3]? = some x := ⟨l[j / 3]'(by omega), List.getElem?_eq_getElem (by omega)⟩
  have := flat_at f hf l (j / 3) (j % 3) x hi (by omega)
  rw [show j / 3 * 3 + j % 3 = j by omega, hj] at this
  have h2 := hc (j / 3) x hi (j % 3) u this.symm
  rw [addr_add]
  rwa [show off + j / 3 * 3 + j % 3 = off + j by omega] at h2
theorem one_cells {α : Type} {f : α → List Value} {l : List α} (hf : ∀ x, ∀ u ∈ f x, u.oneCell' = true) : ∀ u ∈ l.flatMap f, u.oneCell' = true := by
  intro u hu
  obtain ⟨x, _, hx⟩ := List.mem_flatMap.1 hu
  exact hf x u hx

section
variable (w : World)
set_option maxRecDepth 100000
set_option maxHeartbeats 2000000

theorem manifests_walk (t lg : Int) (ao : Option Addr) (len cap : Nat) (ps : List Pr) (h : Seq 3 Pr.cells w ao len cap ps) (hsz : len * 24 ≤ 140737488351232) (hcap0 : ao = none → cap = 0) :
    Calls Try.prog 6 #[.agg #[.int .i64 t, .int .i64 lg, .slice ao len cap]] w fun e w' => e = .returned (.bool true) ∧ Below w.heap.size w w' := by
  obtain ⟨i0, hi, hz0, hz1, hz2⟩ := info_parts infoP
  have hx := h.1
  have hA : Below w.heap.size w (w.alloc (.cells #[.int .i64 t, .int .i64 lg, .slice ao len cap] 44)) := (Below.refl _ _).alloc (Nat.le_refl _) _
  have k0 := heap_alloc_new w (.cells #[.int .i64 t, .int .i64 lg, .slice ao len cap] 44)
  have hbr := bt_byt' (rightM ⟨t, lg, ps⟩) (mb ⟨t, lg, ps⟩) mb_byt
  have HS := hide3 h
  clear h
  go_enter Try.func6, Try.ntmps6
  go_wp2_with fail
  refine (shown_any).mono ?_
  rintro e w1 ⟨rfl, hb1⟩
  have B1 := below_on hA hb1
  have k1 := (hb1.block w.heap.size (by simp)).trans k0
  have l1 : w.heap.size < w1.heap.size := (Array.getElem?_eq_some_iff.1 k1).1
  have c10 : w1.cell? ⟨w.heap.size, 0, none⟩ = some (.int .i64 t) := by rw [Go.Joins.cell_of_block k1]; rfl
  have c11 : w1.cell? ⟨w.heap.size, 1, none⟩ = some (.int .i64 lg) := by rw [Go.Joins.cell_of_block k1]; rfl
  have c12 : w1.cell? ⟨w.heap.size, 2, none⟩ = some (.slice ao len cap) := by rw [Go.Joins.cell_of_block k1]; rfl
  clear hA k0 hb1
  go_wp2_with (first
    | (at_builtin; refine Hid.out ?_)
    | fail)
  refine hide3 ?_
  have hI := (Below.refl w1.heap.size w1).alloc (Nat.le_refl _) (.cells #[.int .i64 t, .int .i64 lg, .slice ao len cap] 44)
  have hI2 : Below w1.heap.size w1 ((w1.alloc (.cells #[.int .i64 t, .int .i64 lg, .slice ao len cap] 44)).alloc (.cells #[] 53)) := hI.alloc (by simp) _
  have inb : ((w1.alloc (.cells #[.int .i64 t, .int .i64 lg, .slice ao len cap] 44)).alloc (.cells #[] 53)).heap[w1.heap.size]? = some (.cells #[.int .i64 t, .int .i64 lg, .slice ao len cap] 44 (0, 0)) := (blk_alloc' _ _ _ (by simp)).trans (heap_alloc_new w1 _)
  have emp : ((w1.alloc (.cells #[.int .i64 t, .int .i64 lg, .slice ao len cap] 44)).alloc (.cells #[] 53)).ownsRow (w1.heap.size + 1) 53 3 (.slice (some ⟨w1.heap.size + 1, 0, none⟩) 0 0) 0 [] := by
    refine ⟨rfl, .inr ⟨w1.heap.size + 1, 0, #[], rfl, Nat.le_refl _, ?_, Nat.le_refl _, Nat.zero_le _, rfl, rfl⟩⟩
    have := heap_alloc_new (w1.alloc (.cells #[.int .i64 t, .int .i64 lg, .slice ao len cap] 44)) (.cells #[] 53)
    rwa [show (w1.alloc (.cells #[.int .i64 t, .int .i64 lg, .slice ao len cap] 44)).heap.size = w1.heap.size + 1 from by simp] at this
  have hs1 := (HS.out.keep B1).keep hI2
  have hzW : ((w1.alloc (.cells #[.int .i64 t, .int .i64 lg, .slice ao len cap] 44)).alloc (.cells #[] 53)).heap.size = w1.heap.size + 2 := by simp
  have BW : Below w.heap.size w ((w1.alloc (.cells #[.int .i64 t, .int .i64 lg, .slice ao len cap] 44)).alloc (.cells #[] 53)) := below_on B1 hI2
  have kW := (hI2.block w.heap.size l1).trans k1
  generalize (w1.alloc (.cells #[.int .i64 t, .int .i64 lg, .slice ao len cap] 44)).alloc (.cells #[] 53) = W at inb emp hs1 hzW BW kW ⊢
  have key : ∀ (v' : Value) (w3 : World), w3.ownsRow (w1.heap.size + 1) 53 3 v' len (ps.flatMap Pr.cells) → W.grownBy w3 (some (w1.heap.size + 1)) → ∃ a l c, v' = .slice a l c ∧ Seq 3 Pr.cells (w3.setCell ⟨w1.heap.size, 2, none⟩ v') a l c ps ∧ Below w.heap.size w (w3.setCell ⟨w1.heap.size, 2, none⟩ v') ∧ (w3.setCell ⟨w1.heap.size, 2, none⟩ v').heap[w1.heap.size]? = some (.cells #[.int .i64 t, .int .i64 lg, v'] 44 (0, 0)) ∧ (w3.setCell ⟨w1.heap.size, 2, none⟩ v').heap[w.heap.size]? = some (.cells #[.int .i64 t, .int .i64 lg, .slice ao len cap] 44 (0, 0)) ∧ w3.cell? ⟨w1.heap.size, 2, none⟩ = some (.slice ao len cap) ∧ w3.frozen? ⟨w1.heap.size, 2, none⟩ = false ∧ w1.heap.size < w3.heap.size := by
    intro v' w3 ho hg
    obtain ⟨a, l, c, rfl⟩ := row_form ho
    have b3 := (hg.block w1.heap.size (by omega) (by simp)).trans inb
    have kw3 := (hg.block w.heap.size (by omega) (by simp; omega)).trans kW
    have g2 := grown_set w3 w1.heap.size 2 (.slice a l c)
    have ho2 := World.ownsRow.kept ho g2 (.inr (fun e => by have := (World.ownsRow.lt ho _ e).1; omega))
    rw [← hx] at ho2
    refine ⟨a, l, c, rfl, row_seq ho2 (fun _ => rfl), (BW.trans ⟨hg.os, hg.tape, hg.output, hg.size, fun k hk => hg.block k (by omega) (by simp; omega)⟩).setCell (p := ⟨w1.heap.size, 2, none⟩) (by simp; omega) _, (Go.Joins.block_setCell b3 _).trans rfl, (Below.heap_setCell _ _ _ _ (by simp; omega)).trans kw3, ?_, Go.Joins.unfrozen_of_block b3 2, (Array.getElem?_eq_some_iff.1 b3).1⟩
    rw [Go.Joins.cell_of_block b3]; rfl
  have KEY := hide3 key
  clear key
  have fin : True := trivial
  cases ao with
  | none =>
    have hl0 : len = 0 ∧ cap = 0 := by
      rcases Nat.eq_zero_or_pos len with e | e
      · exact ⟨e, hcap0 rfl⟩
      · obtain ⟨b, off, e2, _⟩ := hs1.2.2.2 e
        cases e2
    obtain ⟨rfl, rfl⟩ := hl0
    obtain rfl : ps = [] := List.eq_nil_of_length_eq_zero hx
    refine wpList_append_own_none rfl _ _ 42 rfl (w1.heap.size + 1) 53 i0 3 Try.underlying42 hi (.slice (some ⟨w1.heap.size + 1, 0, none⟩) 0 0) _ _ rfl emp rfl ?_
    obtain ⟨a3, l3, c3, e3, q1, q2, q3, q4, q5, q6, q7⟩ := KEY.out (.slice (some ⟨w1.heap.size + 1, 0, none⟩) 0 0) W emp (World.grownBy.refl _ _)
    cases e3
    clear emp inb KEY hs1 BW kW c10 c11 c12 hzW
    go_frame
    have HP1 := PutManifest_any t lg q1
    obtain ⟨LB, eLB⟩ : ∃ L, L = bt (rightM ⟨t, lg, []⟩) (mb ⟨t, lg, []⟩) := ⟨_, rfl⟩
    obtain ⟨EB, eEB⟩ : ∃ L, L = er (rightM ⟨t, lg, []⟩) := ⟨_, rfl⟩
    rw [← eLB, ← eEB] at HP1
    have HP2 : ∀ u : World, Below w.heap.size w u → Calls Try.prog 22 #[.agg #[.int .i64 t, .int .i64 lg, .slice none 0 0]] u fun e w' => ∃ v', e = .returned (.tuple #[v', .int .i64 EB]) ∧ Own w' u.heap.size v' LB ∧ Below u.heap.size u w' := fun u hu => by
      rw [eLB, eEB]
      exact RPutManifest_any t lg (HS.out.keep hu)
    rw [← eLB] at hbr
    have H1 := hide3 HP1
    have H2 := hide3 HP2
    have i0' : (W.setCell ⟨w1.heap.size, 2, none⟩ (.slice (some ⟨w1.heap.size + 1, 0, none⟩) 0 0)).cell? ⟨w1.heap.size, 0, none⟩ = some (.int .i64 t) := by rw [Go.Joins.cell_of_block q3]; rfl
    have i1' : (W.setCell ⟨w1.heap.size, 2, none⟩ (.slice (some ⟨w1.heap.size + 1, 0, none⟩) 0 0)).cell? ⟨w1.heap.size, 1, none⟩ = some (.int .i64 lg) := by rw [Go.Joins.cell_of_block q3]; rfl
    have i2' : (W.setCell ⟨w1.heap.size, 2, none⟩ (.slice (some ⟨w1.heap.size + 1, 0, none⟩) 0 0)).cell? ⟨w1.heap.size, 2, none⟩ = some (.slice (some ⟨w1.heap.size + 1, 0, none⟩) 0 0) := by rw [Go.Joins.cell_of_block q3]; rfl
    have hUs : (W.setCell ⟨w1.heap.size, 2, none⟩ (.slice (some ⟨w1.heap.size + 1, 0, none⟩) 0 0)).heap.size = W.heap.size := by simp
    clear HP1 HP2 eLB eEB
    go_wp2_with fail
    refine H1.out.mono ?_
    rintro e u1 ⟨v4, rfl, o4, hb4⟩
    have B4 := below_on q2 hb4
    have s4 := hb4.size
    have p3 := (hb4.block w1.heap.size (by omega)).trans q3
    have p4 := (hb4.block w.heap.size (by omega)).trans q4
    have sq4 := q1.keep hb4
    have d0 : u1.cell? ⟨w.heap.size, 0, none⟩ = some (.int .i64 t) := by rw [Go.Joins.cell_of_block p4]; rfl
    have d1 : u1.cell? ⟨w.heap.size, 1, none⟩ = some (.int .i64 lg) := by rw [Go.Joins.cell_of_block p4]; rfl
    have d2 : u1.cell? ⟨w.heap.size, 2, none⟩ = some (.slice none 0 0) := by rw [Go.Joins.cell_of_block p4]; rfl
    clear H1 q1 q2 q3 q4 q5 q6 hb4 i0' i1' i2'
    go_wp2_with fail
    refine (H2.out u1 B4).mono ?_
    rintro e u2 ⟨v5, rfl, o5, hb5⟩
    have B5 := below_on B4 hb5
    have s5 := hb5.size
    have r3 := (hb5.block w1.heap.size (by omega)).trans p3
    have r4 := (hb5.block w.heap.size (by omega)).trans p4
    have o45 := o4.keep hb5
    have f0 : u2.cell? ⟨w.heap.size, 0, none⟩ = some (.int .i64 t) := by rw [Go.Joins.cell_of_block r4]; rfl
    have f1 : u2.cell? ⟨w.heap.size, 1, none⟩ = some (.int .i64 lg) := by rw [Go.Joins.cell_of_block r4]; rfl
    have f2 : u2.cell? ⟨w.heap.size, 2, none⟩ = some (.slice none 0 0) := by rw [Go.Joins.cell_of_block r4]; rfl
    have j0 : u2.cell? ⟨w1.heap.size, 0, none⟩ = some (.int .i64 t) := by rw [Go.Joins.cell_of_block r3]; rfl
    have j1 : u2.cell? ⟨w1.heap.size, 1, none⟩ = some (.int .i64 lg) := by rw [Go.Joins.cell_of_block r3]; rfl
    have j2 : u2.cell? ⟨w1.heap.size, 2, none⟩ = some (.slice (some ⟨w1.heap.size + 1, 0, none⟩) 0 0) := by rw [Go.Joins.cell_of_block r3]; rfl
    have HSM := hide3 (sameManifest_any t lg (sq4.keep hb5) (HS.out.keep B5))
    clear H2 B4 p3 p4 d0 d1 d2 o4 sq4 hb5
    go_wp2_with fail
    refine HSM.out.mono ?_
    rintro e u3 ⟨rfl, hb6⟩
    have B6 := below_on B5 hb6
    obtain ⟨a6, n6, p6, rfl, s6, _⟩ := (o45.keep hb6).sl' hbr
    obtain ⟨a7, n7, p7, rfl, s7, _⟩ := (o5.keep hb6).sl' hbr
    have t6 := s6.str (P := Try.prog) 29 Try.underlying29 Try.underlying5 Try.underlying9
    have t7 := s7.str (P := Try.prog) 29 Try.underlying29 Try.underlying5 Try.underlying9
    clear HSM B5 r3 r4 f0 f1 f2 j0 j1 j2 o45 o5 s6 s7 hb6
    go_wp2
    go_ret
    exact ⟨rfl, B6⟩
  | some ad =>
    refine wpList_append_own_at _ rfl _ _ 42 rfl (w1.heap.size + 1) 53 i0 (.agg #[.int .i64 0, .int .i64 0, .int .i64 0]) 3 24 Try.underlying42 hi hz0 hz1 hz2 rfl (by decide) (.slice (some ⟨w1.heap.size + 1, 0, none⟩) 0 0) _ _ rfl emp ad len cap (ps.flatMap Pr.cells) rfl (by rw [flat3_len (fun _ => rfl), hx]) (hs1.flat (fun _ => rfl)) (one_cells (by intro x u hu; simp [Pr.cells] at hu; rcases hu with rfl | rfl | rfl <;> rfl)) (by unfold maxLen; omega) (by omega) (by omega) ?_
    intro v' w3 hown' hgrow _ hat
    rw [Nat.zero_add, List.nil_append] at hown'
    obtain ⟨a3, l3, c3, rfl, q1, q2, q3, q4, q5, q6, q7⟩ := KEY.out v' w3 hown' hgrow
    clear hown' hgrow hat emp inb KEY hs1 BW kW c10 c11 c12
    go_frame
    have HP1 := PutManifest_any t lg q1
    obtain ⟨LB, eLB⟩ : ∃ L, L = bt (rightM ⟨t, lg, ps⟩) (mb ⟨t, lg, ps⟩) := ⟨_, rfl⟩
    obtain ⟨EB, eEB⟩ : ∃ L, L = er (rightM ⟨t, lg, ps⟩) := ⟨_, rfl⟩
    rw [← eLB, ← eEB] at HP1
    have HP2 : ∀ u : World, Below w.heap.size w u → Calls Try.prog 22 #[.agg #[.int .i64 t, .int .i64 lg, .slice (some ad) len cap]] u fun e w' => ∃ v', e = .returned (.tuple #[v', .int .i64 EB]) ∧ Own w' u.heap.size v' LB ∧ Below u.heap.size u w' := fun u hu => by
      rw [eLB, eEB]
      exact RPutManifest_any t lg (HS.out.keep hu)
    rw [← eLB] at hbr
    have H1 := hide3 HP1
    have H2 := hide3 HP2
    have i0' : (w3.setCell ⟨w1.heap.size, 2, none⟩ (.slice a3 l3 c3)).cell? ⟨w1.heap.size, 0, none⟩ = some (.int .i64 t) := by rw [Go.Joins.cell_of_block q3]; rfl
    have i1' : (w3.setCell ⟨w1.heap.size, 2, none⟩ (.slice a3 l3 c3)).cell? ⟨w1.heap.size, 1, none⟩ = some (.int .i64 lg) := by rw [Go.Joins.cell_of_block q3]; rfl
    have i2' : (w3.setCell ⟨w1.heap.size, 2, none⟩ (.slice a3 l3 c3)).cell? ⟨w1.heap.size, 2, none⟩ = some (.slice a3 l3 c3) := by rw [Go.Joins.cell_of_block q3]; rfl
    have hUs : (w3.setCell ⟨w1.heap.size, 2, none⟩ (.slice a3 l3 c3)).heap.size = w3.heap.size := by simp
    clear HP1 HP2 eLB eEB
    go_wp2_with fail
    refine H1.out.mono ?_
    rintro e u1 ⟨v4, rfl, o4, hb4⟩
    have B4 := below_on q2 hb4
    have s4 := hb4.size
    have p3 := (hb4.block w1.heap.size (by omega)).trans q3
    have p4 := (hb4.block w.heap.size (by omega)).trans q4
    have sq4 := q1.keep hb4
    have d0 : u1.cell? ⟨w.heap.size, 0, none⟩ = some (.int .i64 t) := by rw [Go.Joins.cell_of_block p4]; rfl
    have d1 : u1.cell? ⟨w.heap.size, 1, none⟩ = some (.int .i64 lg) := by rw [Go.Joins.cell_of_block p4]; rfl
    have d2 : u1.cell? ⟨w.heap.size, 2, none⟩ = some (.slice (some ad) len cap) := by rw [Go.Joins.cell_of_block p4]; rfl
    clear H1 q1 q2 q3 q4 q5 q6 hb4 i0' i1' i2'
    go_wp2_with fail
    refine (H2.out u1 B4).mono ?_
    rintro e u2 ⟨v5, rfl, o5, hb5⟩
    have B5 := below_on B4 hb5
    have s5 := hb5.size
    have r3 := (hb5.block w1.heap.size (by omega)).trans p3
    have r4 := (hb5.block w.heap.size (by omega)).trans p4
    have o45 := o4.keep hb5
    have f0 : u2.cell? ⟨w.heap.size, 0, none⟩ = some (.int .i64 t) := by rw [Go.Joins.cell_of_block r4]; rfl
    have f1 : u2.cell? ⟨w.heap.size, 1, none⟩ = some (.int .i64 lg) := by rw [Go.Joins.cell_of_block r4]; rfl
    have f2 : u2.cell? ⟨w.heap.size, 2, none⟩ = some (.slice (some ad) len cap) := by rw [Go.Joins.cell_of_block r4]; rfl
    have j0 : u2.cell? ⟨w1.heap.size, 0, none⟩ = some (.int .i64 t) := by rw [Go.Joins.cell_of_block r3]; rfl
    have j1 : u2.cell? ⟨w1.heap.size, 1, none⟩ = some (.int .i64 lg) := by rw [Go.Joins.cell_of_block r3]; rfl
    have j2 : u2.cell? ⟨w1.heap.size, 2, none⟩ = some (.slice a3 l3 c3) := by rw [Go.Joins.cell_of_block r3]; rfl
    have HSM := hide3 (sameManifest_any t lg (sq4.keep hb5) (HS.out.keep B5))
    clear H2 B4 p3 p4 d0 d1 d2 o4 sq4 hb5
    go_wp2_with fail
    refine HSM.out.mono ?_
    rintro e u3 ⟨rfl, hb6⟩
    have B6 := below_on B5 hb6
    obtain ⟨a6, n6, p6, rfl, s6, _⟩ := (o45.keep hb6).sl' hbr
    obtain ⟨a7, n7, p7, rfl, s7, _⟩ := (o5.keep hb6).sl' hbr
    have t6 := s6.str (P := Try.prog) 29 Try.underlying29 Try.underlying5 Try.underlying9
    have t7 := s7.str (P := Try.prog) 29 Try.underlying29 Try.underlying5 Try.underlying9
    clear HSM B5 r3 r4 f0 f1 f2 j0 j1 j2 o45 o5 s6 s7 hb6
    go_wp2
    go_ret
    exact ⟨rfl, B6⟩
end
end Go.Proofs.Yteihabdldiopeaa
