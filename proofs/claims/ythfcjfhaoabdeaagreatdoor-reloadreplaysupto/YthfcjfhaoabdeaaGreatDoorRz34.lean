/-
  How the program reads lists.
-/
import Derived.Test.YthfcjfhaoabdeaaGreatDoorRz33
import Derived.Test.YthfcjfhaoabdeaaGreatDoorRz22
import Derived.Laws.MakeOwn
import Derived.Maps.Range
set_option linter.unusedVariables false
set_option linter.unusedSimpArgs false
namespace Go.Proofs.YthfcjfhaoabdeaaGreatDoor
open Go.RowKit Go.Maps

theorem enter_writes2 : ∀ args w, (callFunc 151 args).run Tryz.prog w = .ok (.enter 151 args) w := enters_of Tryz.func151 (by kernel_rfl) rfl
/-- Rows of writes, of pairs, of a call's own. -/
abbrev WRow (w : World) (base : Nat) (v : Value) (l : List Wr) : Prop := w.ownsRow base 37 3 v l.length (l.flatMap Wr.cells)
theorem row_low {w : World} {base base' e size n : Nat} {v : Value} {xs : List Value} (h : w.ownsRow base e size v n xs) (hb : base' ≤ base) : w.ownsRow base' e size v n xs := by
  refine ⟨h.1, ?_⟩
  rcases h.2 with hn | ⟨g, cap, cur, e, hg, rest⟩
  · exact .inl hn
  · exact .inr ⟨g, cap, cur, e, Nat.le_trans hb hg, rest⟩
theorem row_below {w w' : World} {base e size n : Nat} {v : Value} {xs : List Value} (h : w.ownsRow base e size v n xs) (hb : Below w.heap.size w w') : w'.ownsRow base e size v n xs := by
  refine World.ownsRow.kept h (row := none) ⟨hb.os, hb.tape, hb.output, hb.size, fun k hk _ => hb.block k hk⟩ ?_
  cases hv : v.ownBlock <;> simp
theorem infoW : (Tryz.prog.info? 37).map (fun i => (i.zero, i.size, i.bytes)) = some (some (.agg #[.string .empty, .string .empty, .bool false]), 3, 40) := by kernel_rfl
theorem ecell_three_new (w : World) (a b c : Value) (t : TypeId) : ∀ j u, [a, b, c][j]? = some u → (w.alloc (.cells #[a, b, c] t)).cell? ((⟨w.heap.size, 0, none⟩ : Addr).add j) = some u := by
  intro j u hj
  obtain ⟨n0, n1, n2⟩ := cell_new3 (w := w) (a := a) (b := b) (c := c) (t := t)
  rw [addr_add]
  rcases j with _ | _ | _ | j
  · cases hj; simp
  · cases hj; simp
  · cases hj; simp
  · cases hj

section
variable {w W : World} {r : Nat} {ao : Option Addr} {len cap : Nat} {xs : List Int} {s s' : Rs}
theorem Rd.re (h : Rd w r ao len cap xs s) (G : w.grownBy W (some r)) (hb : W.heap[r]? = some (.cells #[.slice ao len cap, .int .i64 (s'.pos : Int), .bool s'.isBad] 240 (0, 0))) (hl : s'.pos ≤ len) : Rd W r ao len cap xs s' :=
  ⟨hb, h.sl.off h.blk (by simp) (by simp) (by simp) G, hl⟩
end

section
variable {w : World} {r : Nat} {ao : Option Addr} {len cap : Nat} {xs : List Int} {s : Rs}
set_option maxRecDepth 100000
set_option maxHeartbeats 2000000

theorem takeWrites_any (h : Rd w r ao len cap xs s) :
    Calls Tryz.prog 104 #[.pointer (some ⟨r, 0, none⟩), writesV] w fun e w' => ∃ v', e = .returned v' ∧ WRow w' w.heap.size v' (rlist (rwr xs) (rnum xs 64 s).1.toNat (rnum xs 64 s).2).1 ∧ Rd w' r ao len cap xs (rlist (rwr xs) (rnum xs 64 s).1.toNat (rnum xs 64 s).2).2 ∧ w.grownBy w' (some r) := by
  obtain ⟨i0, hi, hz0, hz1, hz2⟩ := info_parts infoW
  have hlt := h.lt
  have eg := enter_writes2
  have hne : w.heap.size ≠ r := by omega
  have z0 := heap_alloc_new w (.cells #[.int .i64 64, .func (.func 150) #[] #[], .func (.func 151) #[] #[]] 175)
  have G0 : w.grownBy (w.alloc (.cells #[.int .i64 64, .func (.func 150) #[] #[], .func (.func 151) #[] #[]] 175)) (some r) := World.grownBy_alloc w _ _
  have h0 := h.keep ((Below.refl _ _).alloc (Nat.le_refl _) (.cells #[.int .i64 64, .func (.func 150) #[] #[], .func (.func 151) #[] #[]] 175))
  obtain ⟨bd0, bd1⟩ := rnum_bd h.sl.2.2.2.1 64 (by omega) s
  have HN := number_any 64 h0 (by omega) (by omega)
  obtain ⟨R, eR⟩ : ∃ R, R = rnum xs 64 s := ⟨_, rfl⟩
  rw [← eR] at bd0 bd1 HN ⊢
  clear eR
  obtain ⟨N, s1⟩ := R
  simp only [] at bd0 bd1 HN ⊢
  obtain ⟨n, rfl⟩ : ∃ n : Nat, N = (n : Int) := ⟨N.toNat, by omega⟩
  simp only [Int.toNat_natCast]
  have hn64 : n ≤ 64 := by omega
  have hni64 : (n : Int) ≤ 64 := by omega
  have HN2 := ehide3 HN
  have H := ehide3 h
  clear h HN h0
  unfold writesV
  have c00 : (w.alloc (.cells #[.int .i64 64, .func (.func 150) #[] #[], .func (.func 151) #[] #[]] 175)).cell? ⟨w.heap.size, 0, none⟩ = some (.int .i64 64) := by rw [Go.Joins.cell_of_block z0]; rfl
  go_enter Tryz.func104, Tryz.ntmps104
  go_wp2_with fail
  refine HN2.out.mono ?_
  rintro e w1 ⟨rfl, h1, g1⟩
  have z1 := res3 z0 g1 hne
  have G1 := G0.trans g1
  have hs1 := G1.size
  have hs1' : w.heap.size + 1 ≤ w1.heap.size := (Array.getElem?_eq_some_iff.1 z1).1
  obtain ⟨w2, hmk, hrow, gmk⟩ := run_make_own (P := Tryz.prog) w1 (w.heap.size + 1) 25 37 i0 (.agg #[.string .empty, .string .empty, .bool false]) 3 Tryz.underlying25 hi hz0 hz1 .i64 .u64 n (by rw [hz2]; omega) (by unfold maxLen; omega) hs1'
  have hB2 : Below w1.heap.size w1 w2 := ⟨gmk.os, gmk.tape, gmk.output, gmk.size, fun k hk => gmk.block k hk (by simp)⟩
  have h2 := h1.keep hB2
  have z2 := (hB2.block w.heap.size (by omega)).trans z1
  have G2 : w.grownBy w2 (some r) := G1.andThen gmk (fun j e => by cases e)
  have HROW := ehide3 hrow
  clear HN2 g1 G0 z0 z1 G1 h1 hrow gmk hB2 c00
  go_wp2
  go_loopw [6, 15] (fun a i wr => ∃ (k : Nat) (va : Value), k ≤ n ∧ i = .int .u64 k ∧ a = va ∧ WRow wr (w.heap.size + 1) va (rlist (rwr xs) k s1).1 ∧ Rd wr r ao len cap xs (rlist (rwr xs) k s1).2 ∧ w.grownBy wr (some r) ∧ wr.heap[w.heap.size]? = some (.cells #[.int .i64 64, .func (.func 150) #[] #[], .func (.func 151) #[] #[]] 175 (0, 0))) (fun _ i _ => n - (intOf i).toNat)
  case atStart => exact ⟨0, _, by omega, rfl, rfl, HROW.out, h2, G2, z2⟩
  case round =>
    obtain ⟨k, va, hk, rfl, hva, ho, hR, hG, hz⟩ := hrel
    replace hva := hva.symm
    subst hva
    by_cases hkn : k < n
    · have hki : (k : Int) < (n : Int) := by omega
      have c2 : wr.cell? ⟨w.heap.size, 2, none⟩ = some (.func (.func 151) #[] #[]) := by rw [Go.Joins.cell_of_block hz]; rfl
      have HT := ehide3 (takeWrite_any hR)
      have hsn := rlist_snoc (rwr xs) k s1
      have hll := rlist_len (rwr xs) k s1
      obtain ⟨L, eL⟩ : ∃ L, L = rlist (rwr xs) k s1 := ⟨_, rfl⟩
      rw [← eL] at ho hR hsn hll HT
      obtain ⟨Y, eY⟩ : ∃ Y, Y = rwr xs L.2 := ⟨_, rfl⟩
      rw [← eY] at hsn HT
      have HSN := ehide3 hsn
      have HO := ehide3 ho
      have HV := ehide3 (fun j (hj : va.ownBlock = some j) => (World.ownsRow.lt ho j hj).1)
      have hsz := hG.size
      have hsz2 : w.heap.size + 1 ≤ wr.heap.size := (Array.getElem?_eq_some_iff.1 hz).1
      clear eL eY hsn ho h2 G2 z2 HROW
      go_wp2_with fail
      refine HT.out.mono ?_
      rintro e w3 ⟨rfl, h3, g3⟩
      obtain ⟨⟨f0, f1, f2⟩, s3⟩ := Y
      unfold Wr.v
      simp only [] at h3 ⊢
      have G3 := hG.trans g3
      have z3 := res3 hz g3 hne
      have ho3 : WRow w3 (w.heap.size + 1) va L.1 := World.ownsRow.kept HO.out g3 (by
        cases hv : va.ownBlock with
        | none => exact .inl rfl
        | some j =>
          refine .inr (fun e => ?_)
          have := HV.out j hv
          simp only [Option.some.injEq] at e
          omega)
      have hs3 := g3.size
      have hb3 := h3.blk
      have hle3 := h3.le
      clear HT g3 hz hG hR h3 c2
      go_wp2_with (first
        | (at_builtin; refine Hid.out ?_)
        | fail)
      refine ehide3 ?_
      refine wpList_append_own_at _ rfl _ _ 25 rfl (w.heap.size + 1) 37 i0 (.agg #[.string .empty, .string .empty, .bool false]) 3 40 Tryz.underlying25 hi hz0 hz1 hz2 rfl (by decide) va _ _ rfl (World.ownsRow.alloc ho3 (.cells #[.string f0, .string f1, .bool f2] 37)) ⟨w3.heap.size, 0, none⟩ 1 1 [.string f0, .string f1, .bool f2] rfl rfl (ecell_three_new _ _ _ _ _) (by intro u hu; simp at hu; rcases hu with rfl | rfl | rfl <;> rfl) (by unfold maxLen; omega) (by omega) (by simp; omega) ?_
      intro v' w4 hown' hgrow _ hat
      have hvlt : ∀ j, va.ownBlock = some j → w.heap.size + 1 ≤ j ∧ j < w3.heap.size := fun j hj => World.ownsRow.lt ho3 j hj
      have G4 : w.grownBy w4 (some r) := (G3.andThen (World.grownBy_alloc w3 (.cells #[.string f0, .string f1, .bool f2] 37) none) (fun j e => by cases e)).andThen hgrow (fun j e => .inl (by have := (hvlt j e).1; omega))
      have z4 := (hgrow.block w.heap.size (by simp; omega) (fun e => by have := (hvlt _ e.symm).1; omega)).trans ((blk_alloc' w3 (.cells #[.string f0, .string f1, .bool f2] 37) w.heap.size (by omega)).trans z3)
      have b4 := (hgrow.block r (by simp; omega) (fun e => by have := (hvlt _ e.symm).1; omega)).trans ((blk_alloc' w3 (.cells #[.string f0, .string f1, .bool f2] 37) r (by omega)).trans hb3)
      have h4 := H.out.re G4 b4 hle3
      have HN4 := ehide3 (show WRow w4 (w.heap.size + 1) v' (L.1 ++ [⟨f0, f1, f2⟩]) from by
        unfold WRow
        rw [List.length_append, List.flatMap_append]
        exact hown')
      clear hown' hgrow ho3 G3 z3 hb3 HO b4
      go_frame
      go_wp2
      go_roundw
      case rel => exact ⟨k + 1, v', by omega, by go_num, rfl, by rw [HSN.out]; exact HN4.out, by rw [HSN.out]; exact h4, G4, z4⟩
      case measure => simp [intOf]; omega
    · obtain rfl : k = n := by omega
      have hF := row_low ho (base' := w.heap.size) (by omega)
      clear ho
      go_wp2
      go_ret
      exact ⟨_, rfl, hF, hR, hG⟩

end
end Go.Proofs.YthfcjfhaoabdeaaGreatDoor

/-
  read, and Commit, Row, Gone, Manifest.
-/
set_option linter.unusedVariables false
set_option linter.unusedSimpArgs false
namespace Go.Proofs.YthfcjfhaoabdeaaGreatDoor
open Go.RowKit Go.Maps

section
variable {w : World} {r : Nat} {ao : Option Addr} {len cap : Nat} {xs : List Int} {s : Rs}
set_option maxRecDepth 100000
set_option maxHeartbeats 2000000

theorem takeCommit_any (h : Rd w r ao len cap xs s) :
    Calls Tryz.prog 103 #[.pointer (some ⟨r, 0, none⟩)] w fun e w' => ∃ v, e = .returned (.agg #[.int .i64 (rnum xs 1099511627775 s).1, v]) ∧ WRow w' w.heap.size v (rlist (rwr xs) (rnum xs 64 (rnum xs 1099511627775 s).2).1.toNat (rnum xs 64 (rnum xs 1099511627775 s).2).2).1 ∧ Rd w' r ao len cap xs (rlist (rwr xs) (rnum xs 64 (rnum xs 1099511627775 s).2).1.toNat (rnum xs 64 (rnum xs 1099511627775 s).2).2).2 ∧ w.grownBy w' (some r) := by
  have hne : w.heap.size ≠ r := by have := h.lt; omega
  have hlt := h.lt
  have z0 := heap_alloc_new w (.cells #[.int .i64 0, .slice none 0 0] 27)
  have G0 : w.grownBy (w.alloc (.cells #[.int .i64 0, .slice none 0 0] 27)) (some r) := World.grownBy_alloc w _ _
  have h0 := h.keep ((Below.refl _ _).alloc (Nat.le_refl _) (.cells #[.int .i64 0, .slice none 0 0] 27))
  clear h
  obtain ⟨R1, e1⟩ : ∃ R, R = rnum xs 1099511627775 s := ⟨_, rfl⟩
  obtain ⟨L, eL⟩ : ∃ L, L = rlist (rwr xs) (rnum xs 64 R1.2).1.toNat (rnum xs 64 R1.2).2 := ⟨_, rfl⟩
  rw [← e1, ← eL]
  have HC1 := time2_any h0
  rw [← e1] at HC1
  have H1 := ehide3 HC1
  have EL := ehide3 eL
  clear e1 eL HC1 h0
  go_enter Tryz.func103, Tryz.ntmps103
  go_wp2_with fail
  refine H1.out.mono ?_
  rintro e w1 ⟨rfl, h1, g1⟩
  have z1 := res3 z0 g1 hne
  have G1 := G0.trans g1
  clear H1 z0 G0 g1
  go_wp2_with fail
  refine writes_any.mono ?_
  rintro e w2 ⟨rfl, hb2⟩
  have h2 := h1.keep hb2
  have z2 := (hb2.block w.heap.size (Array.getElem?_eq_some_iff.1 z1).1).trans z1
  have G2 := G1.andThen (grown_of_below hb2 none) (fun j e => by cases e)
  have HL := takeWrites_any h2
  rw [← EL.out] at HL
  have HL2 := ehide3 HL
  clear HL h1 z1 G1 hb2
  go_wp2_with fail
  refine HL2.out.mono ?_
  rintro e w3 ⟨v3, rfl, ho3, h3, g3⟩
  have z3 := res3 z2 g3 hne
  have G3 := G2.trans g3
  have c0 : w3.cell? ⟨w.heap.size, 0, none⟩ = some (.int .i64 0) := by rw [Go.Joins.cell_of_block z3]; rfl
  have c1 : w3.cell? ⟨w.heap.size, 1, none⟩ = some (.slice none 0 0) := by rw [Go.Joins.cell_of_block z3]; rfl
  have f0 := Go.Joins.unfrozen_of_block z3 0
  have f1 := Go.Joins.unfrozen_of_block z3 1
  have hgs : w.heap.size < w2.heap.size := (Array.getElem?_eq_some_iff.1 z2).1
  have hvne : v3.ownBlock ≠ some w.heap.size := fun e => by
    have := (World.ownsRow.lt ho3 _ e).1
    omega
  have HF := ehide3 (h3.laid G3 hlt (Nat.le_refl _) z3 (no2 (by simp) (by simp)) (set2 _ _ (.int .i64 R1.1) v3))
  have HO := ehide3 (row_low (World.ownsRow.kept ho3 (set2 w3 w.heap.size (.int .i64 R1.1) v3) (.inr hvne)) (base' := w.heap.size) (by omega))
  have zW : ((w3.setCell ⟨w.heap.size, 0, none⟩ (.int .i64 R1.1)).setCell ⟨w.heap.size, 1, none⟩ v3).heap[w.heap.size]? = some (.cells #[.int .i64 R1.1, v3] 27 (0, 0)) := blk_set2 z3 _ _
  clear HL2 z2 G2 h2 g3 G3 h3 z3
  obtain ⟨av, lv, cv, rfl⟩ : ∃ a l c, v3 = .slice a l c := by
    rcases ho3.2 with ⟨rfl, _⟩ | ⟨g, cap, cur, rfl, _⟩
    · exact ⟨_, _, _, rfl⟩
    · exact ⟨_, _, _, rfl⟩
  clear ho3
  go_wp2
  generalize ((w3.setCell ⟨w.heap.size, 0, none⟩ (.int .i64 R1.1)).setCell ⟨w.heap.size, 1, none⟩ (.slice av lv cv)) = W at HF HO zW ⊢
  clear c0 c1 f0 f1
  have y0 : W.cell? ⟨w.heap.size, 0, none⟩ = some (.int .i64 R1.1) := (by rw [Go.Joins.cell_of_block zW]; rfl)
  have y1 : W.cell? ⟨w.heap.size, 1, none⟩ = some (.slice av lv cv) := (by rw [Go.Joins.cell_of_block zW]; rfl)
  refine bodyPost_ret (v := .agg #[.int .i64 R1.1, .slice av lv cv]) (by simp [results, Tryz.results103, go_sem, y0, y1]) rfl ⟨_, rfl, HO.out, HF.out.1, HF.out.2⟩

end
end Go.Proofs.YthfcjfhaoabdeaaGreatDoor
