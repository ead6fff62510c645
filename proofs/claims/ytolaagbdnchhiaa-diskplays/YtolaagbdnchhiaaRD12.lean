/-
  The document's own disk: Append to a name that is not there.
-/
import Derived.Test.YtolaagbdnchhiaaRD11
set_option linter.unusedVariables false
set_option linter.unusedSimpArgs false
namespace Go.Proofs.Ytolaagbdnchhiaa
open Go.RowKit Go.Maps

theorem row_form {w : World} {B size n : Nat} {e : TypeId} {v : Value} {xs : List Value} (h : w.ownsRow B e size v n xs) : ∃ a c, v = .slice a n c := by
  rcases h.2 with h0 | ⟨g, cap, cur, rfl, _⟩
  · obtain ⟨rfl, rfl, _⟩ := h0
    exact ⟨none, 0, rfl⟩
  · exact ⟨_, _, rfl⟩

section
variable {w w' : World} {r : Nat} {κ : Nat → Ro} {vF vO vL vN : Value} {φ : Nat → Nat} {β : Nat → Value} {P : PD} {cut : Int} {off : Bool}

/-- What the last lines of Append find, and leave. -/
theorem app_tail (h1 : Wd w r κ vF vO vL vN φ β P cut false) {i : Nat} {y : List Int × Nat} (a1 : P.fil[i]? = some y) (a2 : Byt y.1) {ao : Option Addr} {len cap : Nat} {xs : List Int} (hsl1 : Sl w.drew ao len cap xs) (hlen : y.1.length + len ≤ 140737488355328) :
    ∃ g capF ab lb capb av lv cv W, vF = .slice (some ⟨g, 0, none⟩) P.fil.length capF ∧ w.cell? ⟨g, i, none⟩ = some (.pointer (some ⟨φ i, 0, none⟩)) ∧ β i = .slice ab lb capb ∧ w.cell? ⟨φ i, 0, none⟩ = some (.slice ab lb capb) ∧ lb = y.1.length ∧
      (Builtin.append_ #[32, 32] 32 #[.slice ab lb capb, .slice ao len cap]).run Try.prog w.drew = .ok (.slice av lv cv) W ∧
      W.cell? ⟨g, i, none⟩ = some (.pointer (some ⟨φ i, 0, none⟩)) ∧ W.cell? ⟨r, 0, none⟩ = some vF ∧ W.cell? ⟨r, 4, none⟩ = some (.int .i64 P.n) ∧ W.cell? ⟨φ i, 0, none⟩ = some (.slice ab lb capb) ∧ W.frozen? ⟨φ i, 0, none⟩ = false ∧
      (W.setCell ⟨φ i, 0, none⟩ (.slice av lv cv)).cell? ⟨r, 4, none⟩ = some (.int .i64 P.n) ∧ (W.setCell ⟨φ i, 0, none⟩ (.slice av lv cv)).frozen? ⟨r, 4, none⟩ = false ∧
      Rres w ((W.setCell ⟨φ i, 0, none⟩ (.slice av lv cv)).setCell ⟨r, 4, none⟩ (.int .i64 (P.n + 1))) r κ { P with fil := P.fil.set i (y.1 ++ xs, y.2), n := P.n + 1 } cut false := by
  have hil := (List.getElem?_eq_some_iff.1 a1).1
  have hk := h1.rk
  obtain ⟨g, capF, rfl, hcell, hkg⟩ := h1.files (i := i) hil
  unfold rpt at hcell
  obtain ⟨b1, b2, b3, b4⟩ := h1.fil i _ a1
  obtain ⟨ab, lb, capb, hbv, hslb, _⟩ := b3.sl' a2
  have hlb : lb = y.1.length := hslb.1.symm
  obtain ⟨av, lv, cv, W, hap, hownW, hgr, hat⟩ := own_append (w := w.drew) (v := β i) (xs := y.1) b3 hsl1 32 hlen a2
  have hbb : ∀ j, (β i).ownBlock = some j → κ j = .byt i := b4
  have nfr : φ i ≠ r := fun e => by
    rw [e, h1.kr] at b2
    cases b2
  have nfb : some (φ i) ≠ (β i).ownBlock := fun e => by
    have := hbb _ e.symm
    rw [b2] at this
    cases this
  have nrb : some r ≠ (β i).ownBlock := fun e => by
    have := hbb _ e.symm
    rw [h1.kr] at this
    cases this
  have flW : RFl W (φ i) (β i) y.2 := (hgr.block (φ i) b1.lt nfb).trans b1
  have kW : Rk W r (.slice (some ⟨g, 0, none⟩) P.fil.length capF) vO vL vN P.n cut false := hk.same (hgr.block r hk.lt nrb)
  have qW0 := flW.cells.1
  have qWf := flW.free 0
  have fl3 : RFl (W.setCell ⟨φ i, 0, none⟩ (.slice av lv cv)) (φ i) (.slice av lv cv) y.2 := by
    have := Go.Joins.block_setCell (i := 0) flW (.slice av lv cv)
    exact this
  have k3 : Rk (W.setCell ⟨φ i, 0, none⟩ (.slice av lv cv)) r (.slice (some ⟨g, 0, none⟩) P.fil.length capF) vO vL vN P.n cut false := kW.same (Below.heap_setCell _ _ _ _ (by simpa using nfr.symm))
  have c34 := k3.cells.2.2.2.2.1
  have f34 := k3.free 4
  have k4 := k3.set.2.2.2.2.1 (P.n + 1)
  have fl4 : RFl ((W.setCell ⟨φ i, 0, none⟩ (.slice av lv cv)).setCell ⟨r, 4, none⟩ (.int .i64 (P.n + 1))) (φ i) (.slice av lv cv) y.2 := (Below.heap_setCell _ _ _ _ (by simpa using nfr)).trans fl3
  have ne1 : ∀ j, (Value.slice av lv cv).ownBlock = some j → j ≠ φ i ∧ j ≠ r := fun j e => by
    rcases hat with e2 | e2
    · rw [e2] at e
      exact ⟨fun q => nfb (by rw [← q, e]), fun q => nrb (by rw [← q, e])⟩
    · rw [e2] at e
      cases e
      have hq1 := b1.lt
      have hq2 := hk.lt
      exact ⟨fun q => by have : w.drew.heap.size = w.heap.size := rfl; omega, fun q => by have : w.drew.heap.size = w.heap.size := rfl; omega⟩
  have own4 : Own ((W.setCell ⟨φ i, 0, none⟩ (.slice av lv cv)).setCell ⟨r, 4, none⟩ (.int .i64 (P.n + 1))) 0 (.slice av lv cv) (y.1 ++ xs) := row_any hownW fun j e => (Below.heap_setCell _ _ _ _ (by simpa using (ne1 j e).2)).trans (Below.heap_setCell _ _ _ _ (by simpa using (ne1 j e).1))
  have F4 : Fr (fun j => j = r ∨ j = φ i ∨ (β i).ownBlock = some j) w ((W.setCell ⟨φ i, 0, none⟩ (.slice av lv cv)).setCell ⟨r, 4, none⟩ (.int .i64 (P.n + 1))) :=
    Fr.setCell (p := ⟨r, 4, none⟩) (Fr.setCell (p := ⟨φ i, 0, none⟩) (Fr.grown (w := w) (w' := W) (row := (β i).ownBlock) ⟨hgr.os, hgr.tape, hgr.output, hgr.size, hgr.block⟩ (fun j e => .inr (.inr e))) (.inl (.inr (.inl rfl))) _) (.inl (.inl rfl)) _
  have hres := h1.grew (i := i) hil a1 own4 F4 (by
    rcases hat with e2 | e2
    · exact .inl e2
    · exact .inr ⟨_, e2, Nat.le_refl _⟩) fl4 k4
  have hglt : g < w.heap.size := by
    have := World.block_lt_of_cell? w _ hcell
    exact this
  have ngb : some g ≠ (β i).ownBlock := fun e => by
    have := hbb _ e.symm
    rw [hkg] at this
    cases this
  have hcellW : W.cell? ⟨g, i, none⟩ = some (.pointer (some ⟨φ i, 0, none⟩)) := (World.cell?_of_block (w := w) (w' := W) (hgr.block g hglt ngb)).trans hcell
  obtain ⟨cW0, -, -, -, cW4, -, -⟩ := kW.cells
  obtain ⟨q0, q1⟩ := (hbv ▸ b1).cells
  rw [hbv] at hap qW0
  exact ⟨g, capF, ab, lb, capb, av, lv, cv, W, rfl, hcell, hbv, q0, hlb, hap, hcellW, cW0, cW4, qW0, qWf, c34, f34, hres⟩

theorem infoFp : (Try.prog.info? 95).map (fun i => (i.zero, i.size, i.bytes)) = some (some (.pointer none), 1, 8) := by kernel_rfl

/-- A file is made, in memory: the block is laid, its pointer put behind the others. -/
theorem made_mem (h1 : Wd w r κ vF vO vL vN φ β P cut false) {v' : Value} {w2 : World} (t2 : TypeId)
    (hown : w2.ownsRow 0 95 1 v' (P.fil.length + 1) (((List.range P.fil.length).map fun i => rpt (φ i)) ++ [.pointer (some ⟨w.heap.size, 0, none⟩)]))
    (hgrow : ((w.alloc (.cells #[.slice none 0 0, .int .i64 0] 94)).alloc (.cells #[.pointer (some ⟨w.heap.size, 0, none⟩)] t2)).grownBy w2 vF.ownBlock)
    (hat : v'.ownBlock = vF.ownBlock ∨ v'.ownBlock = some ((w.alloc (.cells #[.slice none 0 0, .int .i64 0] 94)).alloc (.cells #[.pointer (some ⟨w.heap.size, 0, none⟩)] t2)).heap.size) :
    w2.cell? ⟨r, 0, none⟩ = some vF ∧ w2.frozen? ⟨r, 0, none⟩ = false ∧
    ∃ κ' φ' β', Wd (w2.setCell ⟨r, 0, none⟩ v') r κ' v' vO vL vN φ' β' { P with fil := P.fil ++ [([], 0)] } cut false ∧ (∀ j, j < w.heap.size → κ' j = κ j) ∧ Fr (fun j => κ j ≠ .out) w (w2.setCell ⟨r, 0, none⟩ v') := by
  have hlt := h1.rk.lt
  have hFl : ∀ j, vF.ownBlock = some j → j < w.heap.size := fun j e => (World.ownsRow.lt h1.rF j e).2
  have hrF : some r ≠ vF.ownBlock := fun e => by
    have := h1.kF r e.symm
    rw [h1.kr] at this
    cases this
  have sz : ((w.alloc (.cells #[.slice none 0 0, .int .i64 0] 94)).alloc (.cells #[.pointer (some ⟨w.heap.size, 0, none⟩)] t2)).heap.size = w.heap.size + 2 := by simp
  have k2 : Rk w2 r vF vO vL vN P.n cut false := h1.rk.same ((hgrow.block r (by rw [sz]; omega) hrF).trans ((Below.heap_alloc _ _ r (by simp; omega)).trans (Below.heap_alloc _ _ r hlt)))
  have k3 := k2.set.1 v'
  have fl2 : RFl w2 w.heap.size (.slice none 0 0) 0 := (hgrow.block w.heap.size (by rw [sz]; omega) (fun e => by have := hFl _ e.symm; omega)).trans ((Below.heap_alloc _ _ _ (by simp)).trans (heap_alloc_new _ _))
  have fl3 : RFl (w2.setCell ⟨r, 0, none⟩ v') w.heap.size (.slice none 0 0) 0 := (Below.heap_setCell _ _ _ _ (by show w.heap.size ≠ r; omega)).trans fl2
  have nr' : v'.ownBlock ≠ some r := fun e => by
    rcases hat with e2 | e2
    · rw [e2] at e
      exact hrF e.symm
    · rw [e2, sz] at e
      cases e
      omega
  have nf' : v'.ownBlock ≠ some w.heap.size := fun e => by
    rcases hat with e2 | e2
    · rw [e2] at e
      have := hFl _ e
      omega
    · rw [e2, sz] at e
      have := Option.some.inj e
      omega
  have hrow3 : (w2.setCell ⟨r, 0, none⟩ v').ownsRow 0 95 1 v' (P.fil.length + 1) (((List.range P.fil.length).map fun i => rpt (φ i)) ++ [rpt w.heap.size]) := row_any hown fun j e => Below.heap_setCell _ _ _ _ (by show j ≠ r; exact fun q => nr' (by rw [e, q]))
  have F3 : Fr (fun j => j = r ∨ vF.ownBlock = some j) w (w2.setCell ⟨r, 0, none⟩ v') :=
    Fr.setCell (p := ⟨r, 0, none⟩) ((((Fr.refl _ w).alloc (.cells #[.slice none 0 0, .int .i64 0] 94)).alloc (.cells #[.pointer (some ⟨w.heap.size, 0, none⟩)] t2)).trans (G := fun j => vF.ownBlock = some j) (Fr.grown ⟨hgrow.os, hgrow.tape, hgrow.output, hgrow.size, hgrow.block⟩ (fun j e => e)) (fun j e => .inl (.inr e))) (.inl (.inl rfl)) _
  obtain ⟨κ', φ', β', g1, g2, g3, g4, g5⟩ := h1.made (f := w.heap.size) (Nat.le_refl _) fl3 hrow3 F3 (by
    rcases hat with e2 | e2
    · exact .inl e2
    · exact .inr ⟨_, e2, by rw [sz]; omega⟩) nf' k3
  exact ⟨k2.cells.1, k2.free 0, κ', φ', β', g1, g4, g5⟩
end
end Go.Proofs.Ytolaagbdnchhiaa
