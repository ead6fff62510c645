/-
  The document's own disk: one more file of the disk that Crash is making.
-/
import Derived.Test.YtolaagbdnchhiaaRDt
set_option linter.unusedVariables false
set_option linter.unusedSimpArgs false
namespace Go.Proofs.Ytolaagbdnchhiaa
open Go.RowKit Go.Maps

section
variable {w w' : World} {o : Nat} {κ : Nat → Ro} {vF vO : Value} {φ : Nat → Nat} {β : Nat → Value} {D : PDir} {fs : List (List Int × Nat)}
theorem Wc.same (h : Wc w o κ vF vO φ β D fs) (e : ∀ j, j < w.heap.size → w'.heap[j]? = w.heap[j]?) (hz : w.heap.size ≤ w'.heap.size) : Wc w' o κ vF vO φ β D fs :=
  ⟨h.rk.same (e o h.rk.lt), h.kr, row_any h.rF fun j q => e j (World.ownsRow.lt h.rF j q).2, h.kF, row_any h.rO fun j q => e j (World.ownsRow.lt h.rO j q).2, h.kO, fun i x hx => by
    obtain ⟨d1, d2, d3, d4⟩ := h.fil i x hx
    exact ⟨(e _ d1.lt).trans d1, d2, row_any d3 fun j q => e j (World.ownsRow.lt d3 j q).2, d4⟩, fun g hg => Nat.lt_of_lt_of_le (h.frs g hg) hz⟩

/-- Behind the first append: the files. -/
structure Half (W w7 : World) (o f sy : Nat) (vF vO v v' : Value) (φ : Nat → Nat) (n : Nat) (xs : List Int) (D : PDir) : Prop where
  rk : Rk w7 o v' vO (.slice none 0 0) (.slice none 0 0) 0 (-1) false
  fl : RFl w7 f v sy
  own : Own w7 W.heap.size v xs
  row : w7.ownsRow 0 95 1 v' (n + 1) (((List.range n).map fun i => rpt (φ i)) ++ [rpt f])
  nr : Nr w7 0 vO (nl D)
  fr : Fr (fun j => j = o ∨ vF.ownBlock = some j) W w7
  lo : W.heap.size ≤ f
  ne : ∀ g, v.ownBlock = some g → W.heap.size ≤ g ∧ g ≠ f
  at' : v'.ownBlock = vF.ownBlock ∨ ∃ g, v'.ownBlock = some g ∧ W.heap.size ≤ g ∧ g ≠ f ∧ v.ownBlock ≠ some g
  lt : ∀ g, v'.ownBlock = some g → g < w7.heap.size

theorem Wc.half {W w5 w6 : World} {sy : Nat} {v v' : Value} {xs : List Int} (h : Wc W o κ vF vO φ β D fs) (hB : Below W.heap.size W w5) (hv : Own w5 W.heap.size v xs) (t2 : TypeId)
    (hown : w6.ownsRow 0 95 1 v' (fs.length + 1) (((List.range fs.length).map fun i => rpt (φ i)) ++ [.pointer (some ⟨w5.heap.size, 0, none⟩)]))
    (hgrow : ((w5.alloc (.cells #[v, .int .i64 (sy : Int)] 94)).alloc (.cells #[.pointer (some ⟨w5.heap.size, 0, none⟩)] t2)).grownBy w6 vF.ownBlock)
    (hat : v'.ownBlock = vF.ownBlock ∨ v'.ownBlock = some ((w5.alloc (.cells #[v, .int .i64 (sy : Int)] 94)).alloc (.cells #[.pointer (some ⟨w5.heap.size, 0, none⟩)] t2)).heap.size) :
    w6.cell? ⟨o, 0, none⟩ = some vF ∧ w6.frozen? ⟨o, 0, none⟩ = false ∧ Half W (w6.setCell ⟨o, 0, none⟩ v') o w5.heap.size sy vF vO v v' φ fs.length xs D := by
  have hz := hB.size
  have hlt := h.rk.lt
  have h5 := h.same (w' := w5) (fun j hj => hB.block j hj) hz
  have hFl : ∀ j, vF.ownBlock = some j → j < W.heap.size := fun j e => (World.ownsRow.lt h.rF j e).2
  have hOl : ∀ j, vO.ownBlock = some j → j < W.heap.size := fun j e => (World.ownsRow.lt h.rO j e).2
  have hrF : some o ≠ vF.ownBlock := fun e => by
    have := h.kF o e.symm
    rw [h.kr] at this
    cases this
  have hOF : ∀ j, vO.ownBlock = some j → vF.ownBlock ≠ some j ∧ j ≠ o := fun j e => by
    have hk := h.kO j e
    constructor
    · intro q
      rw [h.kF j q] at hk
      cases hk
    · intro q
      rw [q, h.kr] at hk
      cases hk
  have sz : ((w5.alloc (.cells #[v, .int .i64 (sy : Int)] 94)).alloc (.cells #[.pointer (some ⟨w5.heap.size, 0, none⟩)] t2)).heap.size = w5.heap.size + 2 := by simp
  have up : ∀ j, j < w5.heap.size → vF.ownBlock ≠ some j → w6.heap[j]? = w5.heap[j]? := fun j hj hn => (hgrow.block j (by rw [sz]; omega) (fun q => hn q.symm)).trans ((Below.heap_alloc _ _ j (by simp; omega)).trans (Below.heap_alloc _ _ j hj))
  have k6 : Rk w6 o vF vO (.slice none 0 0) (.slice none 0 0) 0 (-1) false := h5.rk.same (up o h5.rk.lt (fun q => hrF q.symm))
  have fl6 : RFl w6 w5.heap.size v sy := (hgrow.block w5.heap.size (by rw [sz]; omega) (fun e => by have := hFl _ e.symm; omega)).trans ((Below.heap_alloc _ _ _ (by simp)).trans (heap_alloc_new _ _))
  have hs : ∀ j, j ≠ o → (w6.setCell ⟨o, 0, none⟩ v').heap[j]? = w6.heap[j]? := fun j hj => Below.heap_setCell _ _ _ _ (by simpa using hj)
  have nr' : ∀ g, v'.ownBlock = some g → g ≠ o := fun g e q => by
    rcases hat with e2 | e2
    · rw [e2, q] at e
      exact hrF e.symm
    · rw [e2, sz] at e
      have := Option.some.inj e
      omega
  have hvl : ∀ g, v.ownBlock = some g → W.heap.size ≤ g ∧ g < w5.heap.size := fun g e => World.ownsRow.lt hv g e
  refine ⟨k6.cells.1, k6.free 0, k6.set.1 v', (hs _ (by omega)).trans fl6, row_any hv fun j e => (hs j (by have := hvl j e; omega)).trans (up j (hvl j e).2 fun q => by have := hFl j q; have := hvl j e; omega), row_any hown fun j e => hs j (nr' j e), row_any h5.rO fun j e => (hs j (hOF j e).2).trans (up j (World.ownsRow.lt h5.rO j e).2 (hOF j e).1), ?_, hz, fun g e => ⟨(hvl g e).1, by have := hvl g e; omega⟩, ?_, fun g e => by have := (World.ownsRow.lt hown g e).2; simpa using this⟩
  · have F1 : Fr (fun j => j = o ∨ vF.ownBlock = some j) W w5 := ⟨hB.os, hB.tape, hB.output, hB.size, fun j hj _ => hB.block j hj⟩
    exact Fr.setCell (p := ⟨o, 0, none⟩) (((F1.alloc (.cells #[v, .int .i64 (sy : Int)] 94)).alloc (.cells #[.pointer (some ⟨w5.heap.size, 0, none⟩)] t2)).trans (G := fun j => vF.ownBlock = some j) (Fr.grown ⟨hgrow.os, hgrow.tape, hgrow.output, hgrow.size, hgrow.block⟩ (fun j e => e)) (fun j e => .inl (.inr e))) (.inl (.inl rfl)) _
  · rcases hat with e2 | e2
    · exact .inl e2
    · refine .inr ⟨_, e2, by rw [sz]; omega, by rw [sz]; omega, fun q => ?_⟩
      have := (hvl _ q).2
      rw [sz] at this
      omega

/-- Behind the second append: the names. -/
theorem Half.whole {W w7 w8 : World} {f sy : Nat} {v v' v'' : Value} {xs : List Int} {D' : PDir} (h : Wc W o κ vF vO φ β D fs) (H : Half W w7 o f sy vF vO v v' φ fs.length xs D)
    {W7 : World} (hW7 : ∀ j, j < w7.heap.size → W7.heap[j]? = w7.heap[j]?) (hz7 : w7.heap.size ≤ W7.heap.size) (hf7 : Fr (fun _ => False) w7 W7)
    (hown : Nr w8 0 v'' (nl D')) (hgrow : W7.grownBy w8 vO.ownBlock) (hat : vO.ownBlock = v''.ownBlock ∨ ∃ g, v''.ownBlock = some g ∧ w7.heap.size ≤ g) :
    w8.cell? ⟨o, 1, none⟩ = some vO ∧ w8.frozen? ⟨o, 1, none⟩ = false ∧ (∃ κ' φ' β', Wc (w8.setCell ⟨o, 1, none⟩ v'') o κ' v' v'' φ' β' D' (fs ++ [(xs, sy)]) ∧ ∀ j, j < W.heap.size → κ' j = κ j) ∧
    Fr (fun j => j = o ∨ vF.ownBlock = some j ∨ vO.ownBlock = some j) W (w8.setCell ⟨o, 1, none⟩ v'') := by
  have hz := H.fr.size
  have hOl : ∀ j, vO.ownBlock = some j → j < W.heap.size := fun j e => (World.ownsRow.lt h.rO j e).2
  have hoO : some o ≠ vO.ownBlock := fun e => by
    have := h.kO o e.symm
    rw [h.kr] at this
    cases this
  have up : ∀ j, j < w7.heap.size → vO.ownBlock ≠ some j → w8.heap[j]? = w7.heap[j]? := fun j hj hn => (hgrow.block j (by omega) (fun q => hn q.symm)).trans (hW7 j hj)
  have k8 : Rk w8 o v' vO (.slice none 0 0) (.slice none 0 0) 0 (-1) false := H.rk.same (up o H.rk.lt fun q => hoO q.symm)
  have hs : ∀ j, j ≠ o → (w8.setCell ⟨o, 1, none⟩ v'').heap[j]? = w8.heap[j]? := fun j hj => Below.heap_setCell _ _ _ _ (by simpa using hj)
  have holt := h.rk.lt
  have nf : f ≠ o := by have := H.lo; omega
  have nO : ∀ j, W.heap.size ≤ j → vO.ownBlock ≠ some j := fun j hj e => by have := hOl j e; omega
  have nO' : ∀ g, v'.ownBlock = some g → g ≠ o ∧ vO.ownBlock ≠ some g := fun g e => by
    rcases H.at' with e2 | ⟨g2, e2, q, _⟩
    · rw [e2] at e
      exact ⟨(fun q => by have := h.kF g e; rw [q, h.kr] at this; cases this), (fun q => by have := h.kF g e; rw [h.kO g q] at this; cases this)⟩
    · rw [e2] at e
      cases e
      exact ⟨by omega, nO g q⟩
  have n2 : ∀ g, v''.ownBlock = some g → g ≠ o := fun g e q => by
    rcases hat with e2 | ⟨g2, e2, q2⟩
    · rw [← e2, q] at e
      exact hoO e.symm
    · rw [e2] at e
      cases e
      have := H.rk.lt
      omega
  have fl9 : RFl (w8.setCell ⟨o, 1, none⟩ v'') f v sy := (hs f nf).trans ((up f H.fl.lt (nO f H.lo)).trans H.fl)
  have ow9 : Own (w8.setCell ⟨o, 1, none⟩ v'') 0 v xs := row_any (Go.Joins.ownsRow_le H.own (Nat.zero_le _)) fun j e => (hs j (by have := (H.ne j e).1; omega)).trans (up j (World.ownsRow.lt H.own j e).2 (nO j (H.ne j e).1))
  have rw9 : (w8.setCell ⟨o, 1, none⟩ v'').ownsRow 0 95 1 v' (fs.length + 1) (((List.range fs.length).map fun i => rpt (φ i)) ++ [rpt f]) := row_any H.row fun j e => (hs j (nO' j e).1).trans (up j (H.lt j e) (nO' j e).2)
  have nr9 : Nr (w8.setCell ⟨o, 1, none⟩ v'') 0 v'' (nl D') := row_any hown fun j e => hs j (n2 j e)
  have F9 : Fr (fun j => j = o ∨ vF.ownBlock = some j ∨ vO.ownBlock = some j) W (w8.setCell ⟨o, 1, none⟩ v'') := by
    have F7 : Fr (fun j => j = o ∨ vF.ownBlock = some j ∨ vO.ownBlock = some j) W w7 := H.fr.mono fun j _ e => e.elim .inl fun e => .inr (.inl e)
    exact Fr.setCell (p := ⟨o, 1, none⟩) ((F7.trans hf7 fun j e => e.elim).trans (G := fun j => vO.ownBlock = some j) (Fr.grown ⟨hgrow.os, hgrow.tape, hgrow.output, hgrow.size, hgrow.block⟩ (fun j e => e)) (fun j e => .inl (.inr (.inr e)))) (.inl (.inl rfl)) _
  refine ⟨k8.cells.2.1, k8.free 1, h.step (f := f) H.lo fl9 ow9 H.ne rw9 H.at' nr9 ?_ (k8.set.2.1 v'') F9, F9⟩
  rcases hat with e2 | ⟨g, e2, q2⟩
  · exact .inl e2.symm
  · have hf := H.fl.lt
    exact .inr ⟨g, e2, by omega, by omega, fun e => by have := (World.ownsRow.lt H.own g e).2; omega, fun e => by have := H.lt g e; omega⟩
end
theorem crash_below {wR W w9 : World} {o : Nat} {vF vO : Value} (hB : Below o wR W) (F : Fr (fun j => j = o ∨ vF.ownBlock = some j ∨ vO.ownBlock = some j) W w9) (hn : ∀ q, q < o → vF.ownBlock ≠ some q ∧ vO.ownBlock ≠ some q) (ho : o ≤ W.heap.size) : Below o wR w9 :=
  ⟨by rw [F.os, hB.os], by rw [F.tape, hB.tape], by rw [F.output, hB.output], Nat.le_trans hB.size F.size, fun j hj => (F.block j (by omega) (by
    rintro (e | e | e)
    · omega
    · exact (hn j hj).1 e
    · exact (hn j hj).2 e)).trans (hB.block j hj)⟩
end Go.Proofs.Ytolaagbdnchhiaa
