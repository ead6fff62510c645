/-
  The document's own arena: Alloc of a cell that was never taken.
-/
import Derived.Test.YtiflchilmogdoaaDoorR4
set_option linter.unusedVariables false
set_option linter.unusedSimpArgs false
namespace Go.Proofs.YtiflchilmogdoaaDoor
open Go.RowKit

theorem row_succ {W : World} {base : Nat} {e : TypeId} {size : Nat} {v : Value} {k : Nat} {xs : List Value} (h : W.ownsRow base e size v (k + 1) xs) : ∃ g cap, v = .slice (some ⟨g, 0, none⟩) (k + 1) cap := by
  rcases h.2 with ⟨_, h0⟩ | ⟨g, cap, cur, rfl, _⟩
  · omega
  · exact ⟨g, cap, rfl⟩
theorem grownBy_setCell {w w' : World} {g j : Nat} {u : Value} (h : w.grownBy w' (some g)) : w.grownBy (w'.setCell ⟨g, j, none⟩ u) (some g) :=
  ⟨h.os, h.tape, h.output, by simpa [World.setCell] using h.size, fun k hk hne => (Below.heap_setCell _ _ _ _ (by simpa using hne)).trans (h.block k hk hne)⟩

section
variable {w w' : World} {B r n : Nat} {R : List Bool} {H : List Int} {m : Int} {hv tv : Value}

theorem Rw.keepH (h : Rw w B r n R H m hv tv) : hv.ownBlock = none ∨ hv.ownBlock ≠ tv.ownBlock := by
  cases e : hv.ownBlock with
  | none => exact .inl rfl
  | some j => exact .inr (fun e2 => h.nn j e2.symm e)

set_option maxRecDepth 100000 in
set_option maxHeartbeats 4000000 in
/-- All that were ever taken are: the next one is. -/
theorem refAlloc_new (h : Rw w B r n R H m hv tv) (hB : B ≤ w.heap.size) (hf : ∀ j, j < R.length → R.getD j false = true) (hn : R.length < n) :
    Calls Tryd.prog 24 #[.pointer (some ⟨r, 0, none⟩)] w fun e w' => e = .returned (.tuple #[.int .i64 (R.length : Int), .int .i64 0]) ∧ (∃ hv' tv', Rw w' B r n (R ++ [true]) (H ++ [0]) m hv' tv') ∧ Fr (fun k => B ≤ k) w w' := by
  obtain ⟨c0, c1, c2, c3⟩ := h.cells
  obtain ⟨ib, hib, zb0, zb1, zb2⟩ := info_parts infoB
  obtain ⟨iu, hiu, zu0, zu1, zu2⟩ := info_parts infoU2
  have hbig := h.big
  have HR := hide2 h.trow
  have HT := hide2 h.tlen
  have hrl := h.lt
  have hblk := h.blk
  have htr := h.tr
  have hhr := h.hr
  have hnt := h.nt
  have hnh := h.nh
  have hlow := h.low
  have hnum := h.num
  have hHl := h.len
  have hf2 := h.free 2
  have HH := hide2 h
  clear h
  go_enter Tryd.func24, Tryd.ntmps24
  go_wp2
  go_loop [4] (fun i => ∃ k : Nat, k ≤ R.length ∧ i = .int .i64 k) (fun i => R.length - (intOf i).toNat)
  case atStart => exact ⟨0, by omega, rfl⟩
  case round =>
    obtain ⟨k, hk, rfl⟩ := hrel
    by_cases hkl : k < R.length
    · obtain ⟨g, cap', e, hg, hcell⟩ := HR.out (by omega)
      subst e
      obtain ⟨q0, -⟩ := hcell k hkl
      rw [hf k hkl] at q0
      have hc2 : (k : Int) < (R.length : Int) := by omega
      have t3 : decide ((k : Int) < (R.length : Int)) = true := by simpa using hkl
      have t4 : decide (k < R.length) = true := by simpa using hkl
      clear hcell
      go_wp2
      go_round
      case rel => exact ⟨k + 1, by omega, by go_num⟩
      case measure => simp [intOf]; omega
    · obtain rfl : k = R.length := by omega
      have t3 : decide ((R.length : Int) < (R.length : Int)) = false := by simp
      have t5 : decide ((n : Int) ≤ (R.length : Int)) = false := by simp; omega
      obtain ⟨ao, cap, e⟩ := HT.out
      have t6 : ((R.length : Int) == (R.length : Int)) = true := by simp
      subst e
      have hkeep : hv.ownBlock = none ∨ hv.ownBlock ≠ (Value.slice ao R.length cap).ownBlock := HH.out.keepH
      generalize hlen : R.length = len at *
      have HL := hide2 hlen
      clear hlen
      go_wp2_with (first
        | (at_builtin
           refine wpList_append_own_at _ rfl _ _ 39 rfl B 4 ib (.bool false) 1 1 Tryd.underlying39 hib zb0 zb1 zb2 rfl (by decide) _ _ _ rfl (htr.alloc _) ⟨w.heap.size, 0, none⟩ 1 1 [.bool true] rfl rfl (cell_one_new _ _ _) (by simp [Value.oneCell']) (by unfold maxLen; omega) (by omega) (by simp; omega) ?_
           intro v' w2 hown' hgrow _ hb'
           obtain ⟨gt, capt, rfl⟩ := row_succ hown'
           have hblk2 := (hgrow.block r (by simp; omega) (fun e => hnt e.symm)).trans ((blk_alloc _ _ r hrl).trans hblk)
           have k0 : w2.cell? ⟨r, 0, none⟩ = some (.int .i64 (n : Int)) := by rw [Go.Joins.cell_of_block hblk2]; rfl
           have k1 : w2.cell? ⟨r, 1, none⟩ = some hv := by rw [Go.Joins.cell_of_block hblk2]; rfl
           have k2 : w2.cell? ⟨r, 2, none⟩ = some (.slice ao len cap) := by rw [Go.Joins.cell_of_block hblk2]; rfl
           have f2 : w2.frozen? ⟨r, 2, none⟩ = false := Go.Joins.unfrozen_of_block hblk2 2
           have f1 : w2.frozen? ⟨r, 1, none⟩ = false := Go.Joins.unfrozen_of_block hblk2 1
           have hhr2 := (hhr.alloc (.cells #[.bool true] 4)).kept hgrow hkeep
           have l2 : r < w2.heap.size := (Array.getElem?_eq_some_iff.1 hblk2).1
           have ngr : gt ≠ r := fun e => by
             obtain ⟨c, fz, hh⟩ := Lib.ownsRow_kind hown' gt rfl
             rw [e, hblk2] at hh
             simp at hh
           have ngh : hv.ownBlock ≠ some gt := fun e => by
             obtain ⟨c, fz, hh⟩ := Lib.ownsRow_kind hown' gt rfl
             obtain ⟨c2, fz2, hh2⟩ := Lib.ownsRow_kind hhr2 gt e
             rw [hh] at hh2
             simp at hh2
           have hset3 : w2.grownBy (w2.setCell ⟨r, 2, none⟩ (.slice (some ⟨gt, 0, none⟩) (len + 1) capt)) (some r) := grownBy_setCell (World.grownBy.refl _ _)
           have hhr3 := hhr2.kept hset3 (.inr hnh)
           have hown3 := hown'.kept hset3 (.inr (by simpa [Value.ownBlock] using ngr))
           have hblk3 : (w2.setCell ⟨r, 2, none⟩ (.slice (some ⟨gt, 0, none⟩) (len + 1) capt)).heap[r]? = some (.cells #[.int .i64 (n : Int), hv, .slice (some ⟨gt, 0, none⟩) (len + 1) capt, .int .i64 m] 41 (0, 0)) := by
             rw [Go.Joins.block_setCell hblk2]; rfl
           have F2 : Fr (fun k => B ≤ k) w (w2.setCell ⟨r, 2, none⟩ (.slice (some ⟨gt, 0, none⟩) (len + 1) capt)) :=
             (((Fr.refl (fun k => B ≤ k) w).alloc (.cells #[.bool true] 4)).trans (G := fun k => B ≤ k) (Fr.grown hgrow (fun j e => (htr.lt j e).1)) (fun j hj => .inl hj)).setCell (.inl hlow) _
           have hsz3 : (w2.setCell ⟨r, 2, none⟩ (.slice (some ⟨gt, 0, none⟩) (len + 1) capt)).heap.size = w2.heap.size := by simp
           have hnew3 := cell_one_new (w2.setCell ⟨r, 2, none⟩ (.slice (some ⟨gt, 0, none⟩) (len + 1) capt)) (.int .u64 0) 32
           rw [hsz3] at hnew3
           have HNEW := hide2 hnew3
           clear hnew3 hsz3
           have HF2 := hide2 F2
           have HB3 := hide2 hblk3
           have HO3 := hide2 hown3
           have HR3 := hide2 hhr3
           clear F2 hblk3 hown3 hhr3 hset3 hblk2
           go_frame)
        | (at_builtin; refine Hid.out ?_)
        | go_in)
      refine hide2 ?_
      refine wpList_append_own_at _ rfl _ _ 38 rfl B 32 iu (.int .u64 0) 1 8 Tryd.underlying38 hiu zu0 zu1 zu2 rfl (by decide) hv _ _ rfl (HR3.out.alloc _) ⟨w2.heap.size, 0, none⟩ 1 1 [.int .u64 0] rfl rfl HNEW.out (by simp [Value.oneCell']) (by unfold maxLen; omega) (by omega) (by simp; omega) ?_
      intro v'' w4 hown4 hgrow4 _ hb4
      obtain ⟨gh, caph, rfl⟩ := row_succ hown4
      have hblk4 := (hgrow4.block r (by simp; omega) (fun e => hnh e.symm)).trans ((blk_alloc _ _ r (by simpa using l2)).trans HB3.out)
      have htr4 := (HO3.out.alloc (.cells #[.int .u64 0] 32)).kept hgrow4 (.inr (fun e => ngh (by rw [← e]; rfl)))
      have m0 : w4.cell? ⟨r, 0, none⟩ = some (.int .i64 (n : Int)) := by rw [Go.Joins.cell_of_block hblk4]; rfl
      have m1 : w4.cell? ⟨r, 1, none⟩ = some hv := by rw [Go.Joins.cell_of_block hblk4]; rfl
      have m2 : w4.cell? ⟨r, 2, none⟩ = some (.slice (some ⟨gt, 0, none⟩) (len + 1) capt) := by rw [Go.Joins.cell_of_block hblk4]; rfl
      have p1 : w4.frozen? ⟨r, 1, none⟩ = false := Go.Joins.unfrozen_of_block hblk4 1
      have nhr : gh ≠ r := fun e => by
        obtain ⟨c, fz, hh⟩ := Lib.ownsRow_kind hown4 gh rfl
        rw [e, hblk4] at hh
        simp at hh
      have nht : gh ≠ gt := fun e => by
        obtain ⟨c, fz, hh⟩ := Lib.ownsRow_kind hown4 gh rfl
        obtain ⟨c2, fz2, hh2⟩ := Lib.ownsRow_kind htr4 gt rfl
        rw [e, hh2] at hh
        simp at hh
      have s1 := htr4.cellAt len (by omega)
      have s2 := hown4.cellAt len (by omega)
      have s3 := htr4.frozenAt len
      have s4 := hown4.frozenAt len
      have hml : (H.map (Value.int .u64)).length = len := by simp [hHl]
      have hmr : (R.map Value.bool).length = len := by simp [HL.out]
      rw [List.getElem?_append_right (by omega), hmr, Nat.sub_self] at s1
      rw [List.getElem?_append_right (by omega), hml, Nat.sub_self] at s2
      simp only [List.getElem?_cons_zero] at s1 s2
      have l4 : r < w4.heap.size := (Array.getElem?_eq_some_iff.1 hblk4).1
      have lt4 := (htr4.lt gt rfl).2
      have lh4 := (hown4.lt gh rfl).2
      have hcl : (len : Int) < (len : Int) + 1 := by omega
      have HB4 := hide2 hblk4
      have HO4 := hide2 hown4
      have HT4 := hide2 htr4
      have HG4 := hide2 hgrow4
      clear hblk4 hown4 htr4 hgrow4 hown' hgrow hhr2
      go_frame
      go_wp2
      go_ret2
      have hl := HL.out
      subst hl
      have hset5 : w4.grownBy (w4.setCell ⟨r, 1, none⟩ (.slice (some ⟨gh, 0, none⟩) (R.length + 1) caph)) (some r) := grownBy_setCell (World.grownBy.refl _ _)
      have el : (R ++ [true]).length = R.length + 1 := by simp
      have h5 : Rw (w4.setCell ⟨r, 1, none⟩ (.slice (some ⟨gh, 0, none⟩) (R.length + 1) caph)) B r n (R ++ [true]) (H ++ [0]) m (.slice (some ⟨gh, 0, none⟩) (R ++ [true]).length caph) (.slice (some ⟨gt, 0, none⟩) (R ++ [true]).length capt) := by
        refine ⟨?_, ?_, ?_, by simp [hHl], hlow, fun c => ?_, by rw [el]; omega, hbig⟩
        · rw [Go.Joins.block_setCell HB4.out, el]
          rfl
        · have := HT4.out.kept hset5 (.inr (by simpa [Value.ownBlock] using ngr))
          rw [el]
          simpa using this
        · have := HO4.out.kept hset5 (.inr (by simpa [Value.ownBlock] using nhr))
          rw [el]
          simpa using this
        · rcases Nat.lt_or_ge c H.length with hc | hc
          · have := hnum c
            simpa [List.getD, List.getElem?_append_left hc] using this
          · rcases Nat.eq_or_lt_of_le hc with hc | hc
            · subst hc; simp [List.getD]
            · simp [List.getD, List.getElem?_eq_none (show (H ++ [0]).length ≤ c by simp; omega)]
      have F5 := Fr.trans (G := fun k => B ≤ k) (HF2.out.alloc (.cells #[.int .u64 0] 32)) (Fr.grown HG4.out (fun j e => (hhr.lt j e).1)) (fun j hj => .inl hj)
      have F6 := ((F5.setCell (p := ⟨r, 1, none⟩) (.inl hlow) (.slice (some ⟨gh, 0, none⟩) (R.length + 1) caph)).setCell (p := ⟨gt, R.length, none⟩) (.inl (HT4.out.lt gt rfl).1) (.bool true)).setCell (p := ⟨gh, R.length, none⟩) (.inl (HO4.out.lt gh rfl).1) (.int .u64 0)
      have h6 := h5.flag R.length true
      have e6 : (R ++ [true]).set R.length true = R ++ [true] := by simp [List.set_append]
      rw [e6] at h6
      have h7 := h6.numb R.length 0 (by decide)
      have e7 : (H ++ [0]).set R.length 0 = H ++ [0] := by simp [List.set_append, hHl]
      rw [e7] at h7
      exact ⟨rfl, ⟨_, _, h7⟩, F6⟩
end
end Go.Proofs.YtiflchilmogdoaaDoor
