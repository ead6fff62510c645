/-
  RecordReads: what any bytes are read as, by each of the four.
-/
import Derived.Test.YteihabdldiopeaaE22
import Derived.Test.YteihabdldiopeaaE23
import Derived.Test.YteihabdldiopeaaE20
import Derived.Test.YteihabdldiopeaaE21
set_option linter.unusedVariables false
set_option linter.unusedSimpArgs false
namespace Go.Proofs.Yteihabdldiopeaa
open Go.RowKit Go.Maps

theorem row_some {w : World} {base e size n l c : Nat} {a : Option Addr} {xs : List Value} (h : w.ownsRow base e size (.slice a l c) n xs) (hn : 0 < n) : ∃ g cp, Value.slice a l c = .slice (some ⟨g, 0, none⟩) n cp := by
  rcases h.2 with ⟨_, h0⟩ | ⟨g, cap, cur, e1, _⟩
  · omega
  · exact ⟨g, cap, e1⟩
theorem row_len {w : World} {base e size n l c : Nat} {a : Option Addr} {xs : List Value} (h : w.ownsRow base e size (.slice a l c) n xs) : l = n := by
  rcases h.2 with ⟨e1, h0⟩ | ⟨g, cap, cur, e1, _⟩
  · cases e1; omega
  · cases e1; rfl
theorem row_max {w : World} {base e size n l c : Nat} {a : Option Addr} {xs : List Value} (h : w.ownsRow base e size (.slice a l c) n xs) : (n : Int) ≤ 9223372036854775807 := by
  rcases h.2 with ⟨_, h0⟩ | ⟨g, cap, cur, e1, _, _, h1, h2, _⟩
  · omega
  · unfold maxLen at h2
    omega
theorem own_empty1 (p : World) : Own (p.alloc (.cells #[] 5)) p.heap.size (.slice (some ⟨p.heap.size, 0, none⟩) 0 0) [] :=
  ⟨rfl, .inr ⟨p.heap.size, 0, #[], rfl, Nat.le_refl _, heap_alloc_new p _, Nat.le_refl _, Nat.zero_le _, rfl, rfl⟩⟩
theorem grown_own {w w' : World} {b base : Nat} {v u : Value} {xs : List Int} (h : Own w base v xs) (hl : ∀ j, v.ownBlock = some j → j < b) (g : w.grownBy w' u.ownBlock) (hu : ∀ j, u.ownBlock = some j → b ≤ j) : Own w' base v xs := by
  refine World.ownsRow.kept h g ?_
  cases hv : v.ownBlock with
  | none => exact .inl rfl
  | some j =>
    refine .inr fun e => ?_
    have := hl j hv
    have := hu j e.symm
    omega
theorem grown_below {w u u' : World} {v : Value} (h : Below w.heap.size w u) (g : u.grownBy u' v.ownBlock) (hv : ∀ j, v.ownBlock = some j → w.heap.size ≤ j) : Below w.heap.size w u' :=
  h.trans ⟨g.os, g.tape, g.output, g.size, fun k hk => g.block k (Nat.lt_of_lt_of_le hk h.size) fun e => by have := hv k e.symm; omega⟩

theorem bel_alloc1 (W : World) (o : Obj) : Below W.heap.size W (W.alloc o) := (Below.refl _ _).alloc (Nat.le_refl _) o

section
variable (w : World)
set_option maxRecDepth 100000
set_option maxHeartbeats 2000000

theorem reads_walk (ao : Option Addr) (len cap : Nat) (xs : List Int) (h : Sl w ao len cap xs) (hR : len ≤ 140737488351232) :
    Calls Try.prog 7 #[.slice ao len cap] w fun e w' => e = .returned (.bool true) ∧ Below w.heap.size w w' := by
  obtain ⟨i0, hi, hz0, hz1, hz2⟩ := info_parts Try.info5
  have hb := h.2.2.2.1
  have HC := fun (u : World) (a : Option Addr) (l c : Nat) (s : Sl u a l c xs) => PCommit_any s
  have HC' := fun (u : World) (hu : Below w.heap.size w u) => RCommit_any (h.below hu)
  have HM := fun (u : World) (a : Option Addr) (l c : Nat) (s : Sl u a l c xs) => PManifest_any s
  have HM' := fun (u : World) (hu : Below w.heap.size w u) => RManifest_any (h.below hu)
  have HW := fun (u : World) (a : Option Addr) (l c : Nat) (s : Sl u a l c xs) => PRow_any s
  have HW' := fun (u : World) (hu : Below w.heap.size w u) => RRow_any (h.below hu)
  have HG := fun (u : World) (a : Option Addr) (l c : Nat) (s : Sl u a l c xs) => PGone_any s
  have HG' := fun (u : World) (hu : Below w.heap.size w u) => RGone_any (h.below hu)
  generalize vC xs = VC at *
  generalize oC xs = OC at *
  generalize vR xs = VR at *
  generalize oR xs = OR at *
  generalize vG xs = VG at *
  generalize oG xs = OG at *
  generalize vM xs = VM at *
  generalize oM xs = OM at *
  obtain ⟨tc, wsc⟩ := OC
  obtain ⟨rk, rv, rt⟩ := OR
  obtain ⟨gk, gt⟩ := OG
  obtain ⟨tm, lm, psm⟩ := OM
  unfold Rw.v at HW HW'
  unfold Gn.v at HG HG'
  simp only [] at *
  have HSL := hide3 h
  have QC := hide3 HC
  have QC' := hide3 HC'
  have QM := hide3 HM
  have QM' := hide3 HM'
  have QW := hide3 HW
  have QW' := hide3 HW'
  have QG := hide3 HG
  have QG' := hide3 HG'
  clear HC HC' HM HM' HW HW' HG HG'
  go_enter Try.func7, Try.ntmps7
  go_wp2_with fail
  refine (shown_any).mono ?_
  rintro e w1 ⟨rfl, B1⟩
  have em := own_empty1 w1
  have s1 := (HSL.out.below B1).below ((Below.refl _ _).alloc (Nat.le_refl _) (.cells #[] 5))
  have B1' := below_more B1 (.cells #[] 5)
  have hw1 := B1.size
  clear h
  go_wp2_with (first
    | (at_builtin; refine Hid.out ?_)
    | fail)
  refine hide3 ?_
  refine wpList_append_sl rfl _ _ 29 rfl w1.heap.size i0 Try.underlying29 hi hz0 hz1 hz2 (.slice (some ⟨w1.heap.size, 0, none⟩) 0 0) [] rfl em ao len cap xs rfl s1 (by simp; omega) (by simp) ?_
  intro v2 w2 o2 hb2
  rw [List.nil_append] at o2
  have B2 : Below w.heap.size w w2 := B1'.trans (hb2.mono hw1)
  obtain ⟨ai, li, ci, rfl, _, _⟩ := o2.sl' hb
  have o2' := o2.low (base' := 0) (Nat.zero_le _)
  clear em s1 B1' hb2 B1 o2
  go_frame
  go_wp2_with fail
  go_loopw [5] (fun t wr => ∃ k : Nat, k ≤ 2 ∧ t = .int .i64 k ∧ Own wr 0 (.slice ai li ci) xs ∧ Below w.heap.size w wr) (fun t _ => 2 - (intOf t).toNat)
  case atStart => exact ⟨0, by omega, rfl, o2', B2⟩
  case round =>
    obtain ⟨wR, hwR⟩ : ∃ x, x = wr := ⟨_, rfl⟩
    subst hwR
    obtain ⟨k, hk, rfl, oI, B3⟩ := hrel
    clear o2' B2
    by_cases hk2 : k < 2
    case neg =>
      have hki : ¬ (k : Int) < 2 := by omega
      obtain ⟨a1, l1, c1, e1, s1, _⟩ := oI.sl' hb
      cases e1
      have H1 := hide3 (QW.out _ _ _ _ s1)
      clear s1
      go_wp2_with fail
      refine H1.out.mono ?_
      rintro e u1 ⟨rfl, hb1⟩
      have J1 := below_more (below_on B3 hb1) (.cells #[.string rk, .string rv, .int .i64 rt] 36)
      have I1 := (oI.keep hb1).alloc' (.cells #[.string rk, .string rv, .int .i64 rt] 36)
      have k1 := heap_alloc_new u1 (.cells #[.string rk, .string rv, .int .i64 rt] 36)
      have n1 : u1.heap.size < (u1.alloc (.cells #[.string rk, .string rv, .int .i64 rt] 36)).heap.size := by simp
      clear H1 B3 oI hb1
      go_wp2_with fail
      refine (QW'.out _ J1).mono ?_
      rintro e u2 ⟨rfl, hb2⟩
      have J2 := below_more (below_on J1 hb2) (.cells #[.string rk, .string rv, .int .i64 rt] 36)
      have I2 := (I1.keep hb2).alloc' (.cells #[.string rk, .string rv, .int .i64 rt] 36)
      have sz2 := hb2.size
      have k2 := (blk_alloc' u2 (.cells #[.string rk, .string rv, .int .i64 rt] 36) u1.heap.size (by omega)).trans ((hb2.block _ n1).trans k1)
      have j2 := heap_alloc_new u2 (.cells #[.string rk, .string rv, .int .i64 rt] 36)
      have n2 : u2.heap.size < (u2.alloc (.cells #[.string rk, .string rv, .int .i64 rt] 36)).heap.size := by simp
      obtain ⟨a3, l3, c3, e3, s3, _⟩ := I2.sl' hb
      cases e3
      have H3 := hide3 (QG.out _ _ _ _ s3)
      clear J1 I1 k1 hb2 s3
      go_wp2_with fail
      refine H3.out.mono ?_
      rintro e u3 ⟨rfl, hb3⟩
      have J3 := below_more (below_on J2 hb3) (.cells #[.string gk, .int .i64 gt] 39)
      have I3 := (I2.keep hb3).alloc' (.cells #[.string gk, .int .i64 gt] 39)
      have sz3 := hb3.size
      have k3 := (blk_alloc' u3 (.cells #[.string gk, .int .i64 gt] 39) u1.heap.size (by omega)).trans ((hb3.block _ (by omega)).trans k2)
      have j3 := (blk_alloc' u3 (.cells #[.string gk, .int .i64 gt] 39) u2.heap.size (by omega)).trans ((hb3.block _ n2).trans j2)
      have m3 := heap_alloc_new u3 (.cells #[.string gk, .int .i64 gt] 39)
      have n3 : u3.heap.size < (u3.alloc (.cells #[.string gk, .int .i64 gt] 39)).heap.size := by simp
      clear H3 J2 I2 k2 j2 hb3
      go_wp2_with fail
      refine (QG'.out _ J3).mono ?_
      rintro e u4 ⟨rfl, hb4⟩
      have J4 := below_more (below_on J3 hb4) (.cells #[.string gk, .int .i64 gt] 39)
      have I4 := (I3.keep hb4).alloc' (.cells #[.string gk, .int .i64 gt] 39)
      have sz4 := hb4.size
      have k4 := (blk_alloc' u4 (.cells #[.string gk, .int .i64 gt] 39) u1.heap.size (by omega)).trans ((hb4.block _ (by omega)).trans k3)
      have j4 := (blk_alloc' u4 (.cells #[.string gk, .int .i64 gt] 39) u2.heap.size (by omega)).trans ((hb4.block _ (by omega)).trans j3)
      have m4 := (blk_alloc' u4 (.cells #[.string gk, .int .i64 gt] 39) u3.heap.size (by omega)).trans ((hb4.block _ n3).trans m3)
      have q4 := heap_alloc_new u4 (.cells #[.string gk, .int .i64 gt] 39)
      have fk0 : (u4.alloc (.cells #[.string gk, .int .i64 gt] 39)).cell? ⟨u1.heap.size, 0, none⟩ = some (.string rk) := by rw [Go.Joins.cell_of_block k4]; rfl
      have fk1 : (u4.alloc (.cells #[.string gk, .int .i64 gt] 39)).cell? ⟨u1.heap.size, 1, none⟩ = some (.string rv) := by rw [Go.Joins.cell_of_block k4]; rfl
      have fk2 : (u4.alloc (.cells #[.string gk, .int .i64 gt] 39)).cell? ⟨u1.heap.size, 2, none⟩ = some (.int .i64 rt) := by rw [Go.Joins.cell_of_block k4]; rfl
      have fj0 : (u4.alloc (.cells #[.string gk, .int .i64 gt] 39)).cell? ⟨u2.heap.size, 0, none⟩ = some (.string rk) := by rw [Go.Joins.cell_of_block j4]; rfl
      have fj1 : (u4.alloc (.cells #[.string gk, .int .i64 gt] 39)).cell? ⟨u2.heap.size, 1, none⟩ = some (.string rv) := by rw [Go.Joins.cell_of_block j4]; rfl
      have fj2 : (u4.alloc (.cells #[.string gk, .int .i64 gt] 39)).cell? ⟨u2.heap.size, 2, none⟩ = some (.int .i64 rt) := by rw [Go.Joins.cell_of_block j4]; rfl
      have fm0 : (u4.alloc (.cells #[.string gk, .int .i64 gt] 39)).cell? ⟨u3.heap.size, 0, none⟩ = some (.string gk) := by rw [Go.Joins.cell_of_block m4]; rfl
      have fm1 : (u4.alloc (.cells #[.string gk, .int .i64 gt] 39)).cell? ⟨u3.heap.size, 1, none⟩ = some (.int .i64 gt) := by rw [Go.Joins.cell_of_block m4]; rfl
      have fq0 : (u4.alloc (.cells #[.string gk, .int .i64 gt] 39)).cell? ⟨u4.heap.size, 0, none⟩ = some (.string gk) := by rw [Go.Joins.cell_of_block q4]; rfl
      have fq1 : (u4.alloc (.cells #[.string gk, .int .i64 gt] 39)).cell? ⟨u4.heap.size, 1, none⟩ = some (.int .i64 gt) := by rw [Go.Joins.cell_of_block q4]; rfl
      obtain ⟨a5, l5, c5, e5, s5, _⟩ := I4.sl' hb
      cases e5
      have t5 := s5.str (P := Try.prog) 29 Try.underlying29 Try.underlying5 Try.underlying9
      have t6 := (HSL.out.below J4).str (P := Try.prog) 29 Try.underlying29 Try.underlying5 Try.underlying9
      clear J3 I3 k3 j3 m3 hb4 I4 k4 j4 m4 q4 s5
      go_wp2
      go_ret
      exact ⟨rfl, J4⟩
    have hki : (k : Int) < 2 := by omega
    obtain ⟨aA, lA, cA, eA, sA, _⟩ := oI.sl' hb
    cases eA
    have hIl : ∀ j, (Value.slice ai li ci).ownBlock = some j → j < wR.heap.size := fun j hj => (World.ownsRow.lt oI j hj).2
    have H1 := hide3 (QC.out _ _ _ _ sA)
    clear sA
    go_wp2_with fail
    refine H1.out.mono ?_
    rintro e u1 ⟨v1, rfl, o1, hb1⟩
    obtain ⟨a1, l1, c1, rfl⟩ := row_form o1
    obtain rfl := row_len o1
    have C1 := bel_alloc1 u1 (.cells #[.int .i64 tc, .slice a1 wsc.length c1] 26)
    have J1 := below_on (below_on B3 hb1) C1
    have I1 := (oI.keep hb1).keep C1
    have r1 := row_below o1 C1
    have k1 := heap_alloc_new u1 (.cells #[.int .i64 tc, .slice a1 wsc.length c1] 26)
    have n1 : u1.heap.size < (u1.alloc (.cells #[.int .i64 tc, .slice a1 wsc.length c1] 26)).heap.size := by simp
    have sz1 := hb1.size
    have hwR := B3.size
    have hcn1 : ∀ j, (Value.slice a1 wsc.length c1).ownBlock = some j → j ≠ u1.heap.size := fun j hj e => by have := (World.ownsRow.lt o1 j hj).2; omega
    have hbs1 : ∀ j, (Value.slice a1 wsc.length c1).ownBlock = some j → wR.heap.size ≤ j := fun j hj => (World.ownsRow.lt o1 j hj).1
    clear H1 B3 oI hb1 o1 C1
    go_wp2_with fail
    refine (QC'.out _ J1).mono ?_
    rintro e u2 ⟨v2, rfl, o2, hb2⟩
    obtain ⟨a2, l2, c2, rfl⟩ := row_form o2
    obtain rfl := row_len o2
    have C2 := bel_alloc1 u2 (.cells #[.int .i64 tc, .slice a2 wsc.length c2] 26)
    have J2 := below_on (below_on J1 hb2) C2
    have I2 := (I1.keep hb2).keep C2
    have sz2 := hb2.size
    have r2 := row_below (row_below r1 hb2) C2
    have p2 := row_below o2 C2
    have k2 := (C2.block u1.heap.size (by omega)).trans ((hb2.block _ n1).trans k1)
    have j2 := heap_alloc_new u2 (.cells #[.int .i64 tc, .slice a2 wsc.length c2] 26)
    have SM := hide3 (sameCommit_any tc (row_seq r2 (fun _ => rfl)) (row_seq p2 (fun _ => rfl)))
    have fk0 : (u2.alloc (.cells #[.int .i64 tc, .slice a2 wsc.length c2] 26)).cell? ⟨u1.heap.size, 0, none⟩ = some (.int .i64 tc) := by rw [Go.Joins.cell_of_block k2]; rfl
    have fk1 : (u2.alloc (.cells #[.int .i64 tc, .slice a2 wsc.length c2] 26)).cell? ⟨u1.heap.size, 1, none⟩ = some (.slice a1 wsc.length c1) := by rw [Go.Joins.cell_of_block k2]; rfl
    have fj0 : (u2.alloc (.cells #[.int .i64 tc, .slice a2 wsc.length c2] 26)).cell? ⟨u2.heap.size, 0, none⟩ = some (.int .i64 tc) := by rw [Go.Joins.cell_of_block j2]; rfl
    have fj1 : (u2.alloc (.cells #[.int .i64 tc, .slice a2 wsc.length c2] 26)).cell? ⟨u2.heap.size, 1, none⟩ = some (.slice a2 wsc.length c2) := by rw [Go.Joins.cell_of_block j2]; rfl
    clear J1 I1 r1 k1 hb2 o2 p2
    go_wp2_with fail
    refine SM.out.mono ?_
    rintro e u3 ⟨rfl, hb3⟩
    have J3 := below_on J2 hb3
    have I3 := I2.keep hb3
    have RO1 := row_below r2 hb3
    have sz3 := hb3.size
    have CB1 := (hb3.block u1.heap.size (by have := C2.size; omega)).trans k2
    have CL1 : u1.heap.size < u3.heap.size := (Array.getElem?_eq_some_iff.1 CB1).1
    have CN1 : some u1.heap.size ≠ (Value.slice a1 wsc.length c1).ownBlock := fun e => hcn1 u1.heap.size e.symm rfl
    have RO := RO1
    clear SM J2 I2 k2 j2 r2 hb3 fk0 fk1 fj0 fj1 C2
    go_wp2_with fail
    have hmx1 := row_max RO1
    go_loopw [13] (fun i wr => ∃ (j : Nat) (row : List Value), j ≤ wsc.length ∧ i = .int .i64 j ∧ wr.ownsRow wR.heap.size 28 3 (.slice a1 wsc.length c1) wsc.length row ∧ u3.grownBy wr (Value.slice a1 wsc.length c1).ownBlock) (fun i _ => wsc.length - (intOf i).toNat)
    case atStart => exact ⟨0, _, by omega, rfl, RO1, World.grownBy.refl _ _⟩
    case round =>
      obtain ⟨j, row, hj, rfl, hro, hgr⟩ := hrel
      have cbk := (hgr.block u1.heap.size CL1 CN1).trans CB1
      have cc1 : wr.cell? ⟨u1.heap.size, 1, none⟩ = some (.slice a1 wsc.length c1) := by rw [Go.Joins.cell_of_block cbk]; rfl
      by_cases hjl : j < wsc.length
      · obtain ⟨g, cp, e1⟩ := row_some hro (by omega)
        cases e1
        have hrl := hro.1
        have hji : (j : Int) < (wsc.length : Int) := by omega
        obtain ⟨y0, hy0⟩ : ∃ y, row[j * 3]? = some y := ⟨row[j * 3]'(by omega), List.getElem?_eq_getElem (by omega)⟩
        obtain ⟨y1, hy1⟩ : ∃ y, row[j * 3 + 1]? = some y := ⟨row[j * 3 + 1]'(by omega), List.getElem?_eq_getElem (by omega)⟩
        obtain ⟨y2, hy2⟩ : ∃ y, row[j * 3 + 2]? = some y := ⟨row[j * 3 + 2]'(by omega), List.getElem?_eq_getElem (by omega)⟩
        have q0 := (hro.cellAt (j * 3) (by omega)).trans hy0
        have q1 := (hro.cellAt (j * 3 + 1) (by omega)).trans hy1
        have q2 := (hro.cellAt (j * 3 + 2) (by omega)).trans hy2
        have p0 := hro.frozenAt (j * 3)
        have p1 := hro.frozenAt (j * 3 + 1)
        have p2 := hro.frozenAt (j * 3 + 2)
        have hglt := (hro.lt g rfl).2
        have n1 := (((hro.stored (j * 3) (.string ⟨#[]⟩)).1.stored (j * 3 + 1) (.string ⟨#[]⟩)).1.stored (j * 3 + 2) (.bool false)).1
        have n2 := hgr.trans (show wr.grownBy (((wr.setCell ⟨g, j * 3, none⟩ (.string ⟨#[]⟩)).setCell ⟨g, j * 3 + 1, none⟩ (.string ⟨#[]⟩)).setCell ⟨g, j * 3 + 2, none⟩ (.bool false)) (some g) from ((grown_set _ _ _ _).trans (grown_set _ _ _ _)).trans (grown_set _ _ _ _))
        have N1 := hide3 n1
        have N2 := hide3 n2
        have HJ := hide3 (show j + 1 ≤ wsc.length from by omega)
        clear n1 n2 hro hgr cbk hy0 hy1 hy2
        go_wp2
        go_roundw
        case rel => exact ⟨j + 1, _, HJ.out, by go_num, N1.out, N2.out⟩
        case measure => have := HJ.out; simp [intOf]; omega
      · have hji : ¬ (j : Int) < (wsc.length : Int) := by omega
        have oJ := grown_own I3 hIl hgr hbs1
        have B4 := grown_below J3 hgr (fun j hj => Nat.le_trans hwR (hbs1 j hj))
        obtain ⟨wS, hwS⟩ : ∃ x, x = wr := ⟨_, rfl⟩
        subst hwS
        have hwS := B4.size
        have hIm : ∀ j, (Value.slice ai li ci).ownBlock = some j → j < wS.heap.size := fun j hj => Nat.lt_of_lt_of_le (hIl j hj) (by have := hgr.size; omega)
        obtain ⟨aA, lA, cA, eA, sA, _⟩ := oJ.sl' hb
        cases eA
        have H1 := hide3 (QM.out _ _ _ _ sA)
        clear sA hro hgr cbk J3 I3 RO1 CB1
        go_wp2_with fail
        refine H1.out.mono ?_
        rintro e u4 ⟨v4, rfl, o4, hb4⟩
        obtain ⟨a9, l9, c9, rfl⟩ := row_form o4
        obtain rfl := row_len o4
        have C4 := bel_alloc1 u4 (.cells #[.int .i64 tm, .int .i64 lm, .slice a9 psm.length c9] 44)
        have J4 := below_on (below_on B4 hb4) C4
        have I4 := (oJ.keep hb4).keep C4
        have r4 := row_below o4 C4
        have k4 := heap_alloc_new u4 (.cells #[.int .i64 tm, .int .i64 lm, .slice a9 psm.length c9] 44)
        have n4 : u4.heap.size < (u4.alloc (.cells #[.int .i64 tm, .int .i64 lm, .slice a9 psm.length c9] 44)).heap.size := by simp
        have sz4 := hb4.size
        have hcn9 : ∀ j, (Value.slice a9 psm.length c9).ownBlock = some j → j ≠ u4.heap.size := fun j hj e => by have := (World.ownsRow.lt o4 j hj).2; omega
        have hbs9 : ∀ j, (Value.slice a9 psm.length c9).ownBlock = some j → wS.heap.size ≤ j := fun j hj => (World.ownsRow.lt o4 j hj).1
        clear H1 B4 oJ hb4 o4 C4
        go_wp2_with fail
        refine (QM'.out _ J4).mono ?_
        rintro e u5 ⟨v5, rfl, o5, hb5⟩
        obtain ⟨a8, l8, c8, rfl⟩ := row_form o5
        obtain rfl := row_len o5
        have C5 := bel_alloc1 u5 (.cells #[.int .i64 tm, .int .i64 lm, .slice a8 psm.length c8] 44)
        have J5 := below_on (below_on J4 hb5) C5
        have I5 := (I4.keep hb5).keep C5
        have sz5 := hb5.size
        have r5 := row_below (row_below r4 hb5) C5
        have p5 := row_below o5 C5
        have k5 := (C5.block u4.heap.size (by omega)).trans ((hb5.block _ n4).trans k4)
        have j5 := heap_alloc_new u5 (.cells #[.int .i64 tm, .int .i64 lm, .slice a8 psm.length c8] 44)
        have SM2 := hide3 (sameManifest_any tm lm (row_seq r5 (fun _ => rfl)) (row_seq p5 (fun _ => rfl)))
        have fk0 : (u5.alloc (.cells #[.int .i64 tm, .int .i64 lm, .slice a8 psm.length c8] 44)).cell? ⟨u4.heap.size, 0, none⟩ = some (.int .i64 tm) := by rw [Go.Joins.cell_of_block k5]; rfl
        have fk1 : (u5.alloc (.cells #[.int .i64 tm, .int .i64 lm, .slice a8 psm.length c8] 44)).cell? ⟨u4.heap.size, 1, none⟩ = some (.int .i64 lm) := by rw [Go.Joins.cell_of_block k5]; rfl
        have fk2 : (u5.alloc (.cells #[.int .i64 tm, .int .i64 lm, .slice a8 psm.length c8] 44)).cell? ⟨u4.heap.size, 2, none⟩ = some (.slice a9 psm.length c9) := by rw [Go.Joins.cell_of_block k5]; rfl
        have fj0 : (u5.alloc (.cells #[.int .i64 tm, .int .i64 lm, .slice a8 psm.length c8] 44)).cell? ⟨u5.heap.size, 0, none⟩ = some (.int .i64 tm) := by rw [Go.Joins.cell_of_block j5]; rfl
        have fj1 : (u5.alloc (.cells #[.int .i64 tm, .int .i64 lm, .slice a8 psm.length c8] 44)).cell? ⟨u5.heap.size, 1, none⟩ = some (.int .i64 lm) := by rw [Go.Joins.cell_of_block j5]; rfl
        have fj2 : (u5.alloc (.cells #[.int .i64 tm, .int .i64 lm, .slice a8 psm.length c8] 44)).cell? ⟨u5.heap.size, 2, none⟩ = some (.slice a8 psm.length c8) := by rw [Go.Joins.cell_of_block j5]; rfl
        clear J4 I4 r4 k4 hb5 o5 p5
        go_wp2_with fail
        refine SM2.out.mono ?_
        rintro e u6 ⟨rfl, hb6⟩
        have J6 := below_on J5 hb6
        have I6 := I5.keep hb6
        have RO9 := row_below r5 hb6
        have sz6 := hb6.size
        have CB9 := (hb6.block u4.heap.size (by have := C5.size; omega)).trans k5
        have CL9 : u4.heap.size < u6.heap.size := (Array.getElem?_eq_some_iff.1 CB9).1
        have CN9 : some u4.heap.size ≠ (Value.slice a9 psm.length c9).ownBlock := fun e => hcn9 u4.heap.size e.symm rfl
        clear SM2 J5 I5 k5 j5 r5 hb6 C5 fk0 fk1 fk2 fj0 fj1 fj2
        go_wp2_with fail
        have hmx9 := row_max RO9
        go_loopw [21] (fun i wr => ∃ (j : Nat) (row : List Value), j ≤ psm.length ∧ i = .int .i64 j ∧ wr.ownsRow wS.heap.size 53 3 (.slice a9 psm.length c9) psm.length row ∧ u6.grownBy wr (Value.slice a9 psm.length c9).ownBlock) (fun i _ => psm.length - (intOf i).toNat)
        case atStart => exact ⟨0, _, by omega, rfl, RO9, World.grownBy.refl _ _⟩
        case round =>
          obtain ⟨j, row, hj, rfl, hro, hgr⟩ := hrel
          have cbk := (hgr.block u4.heap.size CL9 CN9).trans CB9
          have cc1 : wr.cell? ⟨u4.heap.size, 2, none⟩ = some (.slice a9 psm.length c9) := by rw [Go.Joins.cell_of_block cbk]; rfl
          by_cases hjl : j < psm.length
          · obtain ⟨g, cp, e1⟩ := row_some hro (by omega)
            cases e1
            have hrl := hro.1
            have hji : (j : Int) < (psm.length : Int) := by omega
            obtain ⟨y0, hy0⟩ : ∃ y, row[j * 3]? = some y := ⟨row[j * 3]'(by omega), List.getElem?_eq_getElem (by omega)⟩
            obtain ⟨y1, hy1⟩ : ∃ y, row[j * 3 + 1]? = some y := ⟨row[j * 3 + 1]'(by omega), List.getElem?_eq_getElem (by omega)⟩
            obtain ⟨y2, hy2⟩ : ∃ y, row[j * 3 + 2]? = some y := ⟨row[j * 3 + 2]'(by omega), List.getElem?_eq_getElem (by omega)⟩
            have q0 := (hro.cellAt (j * 3) (by omega)).trans hy0
            have q1 := (hro.cellAt (j * 3 + 1) (by omega)).trans hy1
            have q2 := (hro.cellAt (j * 3 + 2) (by omega)).trans hy2
            have p0 := hro.frozenAt (j * 3)
            have p1 := hro.frozenAt (j * 3 + 1)
            have p2 := hro.frozenAt (j * 3 + 2)
            have hglt := (hro.lt g rfl).2
            have n1 := (((hro.stored (j * 3) (.int .i64 0)).1.stored (j * 3 + 1) (.int .i64 0)).1.stored (j * 3 + 2) (.int .i64 0)).1
            have n2 := hgr.trans (show wr.grownBy (((wr.setCell ⟨g, j * 3, none⟩ (.int .i64 0)).setCell ⟨g, j * 3 + 1, none⟩ (.int .i64 0)).setCell ⟨g, j * 3 + 2, none⟩ (.int .i64 0)) (some g) from ((grown_set _ _ _ _).trans (grown_set _ _ _ _)).trans (grown_set _ _ _ _))
            have N1 := hide3 n1
            have N2 := hide3 n2
            have HJ := hide3 (show j + 1 ≤ psm.length from by omega)
            clear n1 n2 hro hgr cbk hy0 hy1 hy2
            go_wp2
            go_roundw
            case rel => exact ⟨j + 1, _, HJ.out, by go_num, N1.out, N2.out⟩
            case measure => have := HJ.out; simp [intOf]; omega
          · have hji : ¬ (j : Int) < (psm.length : Int) := by omega
            have oK := grown_own I6 hIm hgr hbs9
            have B7 := grown_below J6 hgr (fun j hj => Nat.le_trans hwS (hbs9 j hj))
            clear hro hgr cbk J6 I6 RO9 CB9
            go_wp2
            go_roundw
            case rel => exact ⟨k + 1, by omega, by go_num, oK, B7⟩
            case measure => simp [intOf]; omega
end
end Go.Proofs.Yteihabdldiopeaa
