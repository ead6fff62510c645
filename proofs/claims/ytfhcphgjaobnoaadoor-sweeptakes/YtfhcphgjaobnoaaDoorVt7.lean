/-
  Vs7: Layer 15: an operation: Begin, its steps, Gone. (Printed by gen_vs7.py.)
  Vs8: Layer 15: a step of an operation. (Printed by gen_vs8.py.)
  Vs9: Layer 15: an operation is stepped to its end.
  VsA: Layer 15: an operation is stepped to its end; the law's example; SweepLeast, SweepNone, SweepMarks.
-/
import Derived.Test.YtfhcphgjaobnoaaDoorVt4
import Derived.Deep.RegionHeld3
import Derived.Test.YtfhcphgjaobnoaaDoorTaD
set_option linter.unusedVariables false
set_option linter.unusedSimpArgs false
namespace Go.Proofs.YtfhcphgjaobnoaaDoor

section
open Go.RowKit Go.Maps

def iv (x : Int) : Value := .int .i64 x
/-- A row of numbers that a call has made. -/
def Ir (w : World) (base : Nat) (v : Value) (xs : List Int) : Prop := w.ownsRow base 3 1 v xs.length (xs.map iv)
section
variable {w w' : World} {base B : Nat} {v : Value} {xs : List Int}
theorem Ir.seq (h : Ir w base v xs) : ∃ ao cap, v = .slice ao xs.length cap ∧ Seq 1 ih w ao xs.length cap xs ∧ ∀ b off, ao = some ⟨b, off, none⟩ → v.ownBlock = some b ∧ off = 0 := by
  rcases h.2 with ⟨rfl, h0⟩ | ⟨g, cap, cur, rfl, hg, hh, hn, hm, hs, ht⟩
  · exact ⟨none, 0, by rw [h0], ⟨by simp, by omega, Nat.zero_le _, fun h => absurd h (by omega)⟩, fun b off e => by cases e⟩
  · refine ⟨_, cap, rfl, ⟨by simp, hn, hm, fun _ => ⟨g, 0, rfl, (Array.getElem?_eq_some_iff.1 hh).1, fun i x hi j u hj => ?_⟩⟩, fun b off e => by injection e with e; injection e with e1 e2 e3; subst e1 e2; exact ⟨rfl, rfl⟩⟩
    have hj0 : j = 0 := by
      rcases j with _ | j
      · rfl
      · simp [ih] at hj
    subst hj0
    simp [ih] at hj
    subst hj
    rw [Go.Joins.cell_of_block hh]
    have hi2 : i < xs.length := (List.getElem?_eq_some_iff.1 hi).1
    rw [← Array.getElem?_toList]
    have : (cur.toList.take (xs.length * 1))[i]? = some (iv xs[i]) := by rw [ht]; simp [hi2]
    rw [List.getElem?_take, if_pos (by omega)] at this
    have e : x = xs[i] := by
      rw [List.getElem?_eq_getElem hi2] at hi
      simpa using hi.symm
    rw [e]
    simpa [iv] using this
set_option maxRecDepth 100000 in
set_option maxHeartbeats 2000000 in
/-- slices.Clone. -/
theorem iclone_any {ao : Option Addr} {len cap : Nat} (hs : Seq 1 ih w ao len cap xs) (hl : 8 * len ≤ 140737488351232) :
    Calls Tryd.prog 68 #[.slice ao len cap] w fun e w' => ∃ v', e = .returned v' ∧ Ir w' w.heap.size v' xs ∧ Below w.heap.size w w' := by
  obtain ⟨i0, hi0, z0, z1, z2⟩ := info_parts infoH
  have hx := hs.1
  rcases ao with _ | ad
  · have e0 : len = 0 := by
      rcases Nat.eq_zero_or_pos len with q | q
      · exact q
      · obtain ⟨b, off, e, _⟩ := hs.2.2.2 q; cases e
    subst e0
    have e1 : xs = [] := List.length_eq_zero_iff.1 hx
    subst e1
    have hnil := Lib.run_eql_slice_nil (P := Tryd.prog) w 29 3 none 0 cap 0 0 Tryd.underlying29
    clear hs
    go_enter Tryd.func68, Tryd.ntmps68
    go_wp2
    go_ret
    exact ⟨_, rfl, ⟨rfl, .inl ⟨rfl, rfl⟩⟩, Below.refl _ _⟩
  · have hnil := Lib.run_eql_slice_nil (P := Tryd.prog) w 29 3 (some ad) len cap 0 0 Tryd.underlying29
    have HOLD : Hid (∀ j u, (xs.map iv)[j]? = some u → (w.alloc (.cells #[] 3)).cell? (ad.add j) = some u) := hide2 (fun j u hj => by
      have hjl : j < xs.length := by have := (List.getElem?_eq_some_iff.1 hj).1; simpa using this
      obtain ⟨b, off, e, hbl, hc⟩ := hs.2.2.2 (by omega)
      injection e with e
      subst e
      rw [addr_plus, World.cell?_alloc_lt _ _ _ hbl]
      have := hc j xs[j] (List.getElem?_eq_getElem hjl) 0 _ rfl
      rw [List.getElem?_map, List.getElem?_eq_getElem hjl] at hj
      simp at hj
      subst hj
      simpa [iv] using this)
    have HEMP : Hid ((w.alloc (.cells #[] 3)).ownsRow w.heap.size 3 1 (.slice (some ⟨w.heap.size, 0, none⟩) 0 0) 0 []) := hide2 ⟨rfl, .inr ⟨w.heap.size, 0, #[], rfl, Nat.le_refl _, heap_alloc_new w _, Nat.le_refl _, Nat.zero_le _, rfl, rfl⟩⟩
    clear hs
    go_enter Tryd.func68, Tryd.ntmps68
    go_wp2_with (at_builtin; refine Hid.out ?_)
    refine hide2 ?_
    refine wpList_append_own_at _ rfl _ _ 29 rfl w.heap.size 3 i0 (.int .i64 0) 1 8 Tryd.underlying29 hi0 z0 z1 z2 rfl (by decide) (.slice (some ⟨w.heap.size, 0, none⟩) 0 0) _ _ rfl HEMP.out ad len cap (xs.map iv) rfl (by simp; omega) HOLD.out (by intro u hu; obtain ⟨x, _, rfl⟩ := List.mem_map.1 hu; rfl) (by unfold maxLen; omega) (by omega) (by simp) ?_
    intro v' w4 hown4 hgrow4 hat4 hb4
    have HR : Hid (Ir w4 w.heap.size v' xs) := hide2 (by
      unfold Ir
      rw [hx]
      simpa using hown4)
    have HB : Hid (Below w.heap.size w w4) := hide2 (by
      have b1 : Below w.heap.size w (w.alloc (.cells #[] 3)) := (Below.refl _ w).alloc (Nat.le_refl _) _
      have f1 : Fr (fun j => j = w.heap.size) (w.alloc (.cells #[] 3)) w4 := Fr.grown hgrow4 (fun j e => by simp [Value.ownBlock] at e; exact e.symm)
      exact b1.trans (f1.to (fun j hj e => by omega) b1.size))
    obtain ⟨va, vn, vc, ev⟩ : ∃ a n c, v' = Value.slice a n c := by obtain ⟨a, c, e, _⟩ := HR.out.seq; exact ⟨a, _, c, e⟩
    clear hown4 hgrow4 hat4 hb4 HOLD HEMP
    subst ev
    go_frame
    go_wp2
    go_ret
    exact ⟨_, rfl, HR.out, HB.out⟩
end

/-- An operation of a sweep: what is left, how many went, is it done; Q are its blocks. -/
structure Opm (w : World) (B : Nat) (Q : Nat → Prop) (ob : Nat) (po : Option Addr) (left : List Int) (mark : Int) (g : Nat) (dn : Bool) : Prop where
  ex : ∃ lb s3 mk ao cap, w.heap[ob]? = some (.cells #[.pointer po, .func (.func 69) #[] #[.pointer (some ⟨lb, 0, none⟩), .pointer (some ⟨s3, 0, none⟩), .pointer (some ⟨mk, 0, none⟩)], .int .i64 (g : Int), .bool dn] 82 (0, 0)) ∧
    w.heap[lb]? = some (.cells #[.slice ao left.length cap] 29 (0, 0)) ∧ w.heap[s3]? = some (.cells #[.pointer po] 30 (0, 0)) ∧ w.heap[mk]? = some (.cells #[.int .i64 mark] 2 (0, 0)) ∧
    Seq 1 ih w ao left.length cap left ∧ Q ob ∧ Q lb ∧ Q s3 ∧ Q mk ∧ (∀ b off, ao = some ⟨b, off, none⟩ → Q b ∧ b ≠ ob ∧ b ≠ lb) ∧ (ao = none → left = [] ∧ cap = 0)
  ql : ∀ j, Q j → B ≤ j ∧ j < w.heap.size
section
variable {w w' : World} {B ob g : Nat} {Q : Nat → Prop} {po : Option Addr} {left : List Int} {mark : Int} {dn : Bool}
theorem Opm.keep {G : Nat → Prop} (h : Opm w B Q ob po left mark g dn) (hF : Fr G w w') (hG : ∀ j, Q j → ¬ G j) : Opm w' B Q ob po left mark g dn := by
  obtain ⟨⟨lb, s3, mk, ao, cap, h1, h2, h3, h4, h5, q1, q2, q3, q4, q5, q6⟩, ql⟩ := h
  have hs := hF.size
  refine ⟨⟨lb, s3, mk, ao, cap, (hF.block _ (ql _ q1).2 (hG _ q1)).trans h1, (hF.block _ (ql _ q2).2 (hG _ q2)).trans h2, (hF.block _ (ql _ q3).2 (hG _ q3)).trans h3, (hF.block _ (ql _ q4).2 (hG _ q4)).trans h4, ⟨h5.1, h5.2.1, h5.2.2.1, fun q => ?_⟩, q1, q2, q3, q4, q5, q6⟩, fun j hj => ⟨(ql j hj).1, by have := (ql j hj).2; omega⟩⟩
  obtain ⟨b, off, e, hbl, hc⟩ := h5.2.2.2 q
  exact ⟨b, off, e, by omega, fun i x hi j u hu => (hF.cell (p := ⟨b, off + i * 1 + j, none⟩) hbl (hG b (q5 b off e).1)).trans (hc i x hi j u hu)⟩
theorem Opm.below (h : Opm w B Q ob po left mark g dn) (hb : Below w.heap.size w w') : Opm w' B Q ob po left mark g dn := h.keep (G := fun _ => False) (Fr.below hb) (fun _ _ e => e)
set_option maxRecDepth 100000 in
set_option maxHeartbeats 2000000 in
theorem begin_any {ao : Option Addr} {len cap : Nat} {xs : List Int} (hs : Seq 1 ih w ao len cap xs) (hl : 8 * len ≤ 140737488351232) (mark : Int) (po : Option Addr) :
    Calls Tryd.prog 17 #[.pointer po, .slice ao len cap, .int .i64 mark] w fun e w' => ∃ ob Q, e = .returned (.pointer (some ⟨ob, 0, none⟩)) ∧ Opm w' w.heap.size Q ob po xs mark 0 false ∧ Below w.heap.size w w' := by
  have HNB : Hid (Calls Tryd.prog 42 #[.pointer po, .slice ao len cap, .int .i64 mark] w fun e w' => ∃ lb s3 mk v, e = .returned (.func (.func 69) #[] #[.pointer (some ⟨lb, 0, none⟩), .pointer (some ⟨s3, 0, none⟩), .pointer (some ⟨mk, 0, none⟩)]) ∧
      w'.heap[lb]? = some (.cells #[v] 29 (0, 0)) ∧ w'.heap[s3]? = some (.cells #[.pointer po] 30 (0, 0)) ∧ w'.heap[mk]? = some (.cells #[.int .i64 mark] 2 (0, 0)) ∧ Ir w' w.heap.size v xs ∧ w.heap.size ≤ lb ∧ w.heap.size ≤ s3 ∧ w.heap.size ≤ mk ∧ v.ownBlock ≠ some lb ∧ Below w.heap.size w w') := hide2 (by
    obtain ⟨wb, hwb⟩ : ∃ q, q = (w.alloc (.cells #[.pointer po] 30)).alloc (.cells #[.int .i64 mark] 2) := ⟨_, rfl⟩
    have hB : Below w.heap.size w wb := by rw [hwb]; exact ((Below.refl _ w).alloc (Nat.le_refl _) _).alloc (by simp) _
    have hsz : wb.heap.size = w.heap.size + 2 := by rw [hwb]; simp
    have b3 : wb.heap[w.heap.size]? = some (.cells #[.pointer po] 30 (0, 0)) := by
      rw [hwb, Below.heap_alloc _ _ _ (by simp)]; exact heap_alloc_new w _
    have bm : wb.heap[w.heap.size + 1]? = some (.cells #[.int .i64 mark] 2 (0, 0)) := by
      have := heap_alloc_new (w.alloc (.cells #[.pointer po] 30)) (.cells #[.int .i64 mark] 2)
      rw [hwb]; simpa using this
    have HC := hide2 (iclone_any (hs.keep hB) hl)
    have HB := hide2 hB
    have H3 := hide2 b3
    have HM := hide2 bm
    clear hs hB b3 bm
    go_enter Tryd.func42, Tryd.ntmps42
    go_wp2_with fail
    rw [← hwb]
    refine HC.out.mono ?_
    rintro e w1 ⟨v, rfl, hI, hb1⟩
    have hs1 := hb1.size
    obtain ⟨wf, hwf⟩ : ∃ q, q = w1.alloc (.cells #[v] 29) := ⟨_, rfl⟩
    have bl : wf.heap[w1.heap.size]? = some (.cells #[v] 29 (0, 0)) := by rw [hwf]; exact heap_alloc_new w1 _
    have hbf : Below w1.heap.size w1 wf := by rw [hwf]; exact (Below.refl _ w1).alloc (Nat.le_refl _) _
    have e3 := (hbf.block w.heap.size (by omega)).trans ((hb1.block _ (by omega)).trans H3.out)
    have em := (hbf.block (w.heap.size + 1) (by omega)).trans ((hb1.block _ (by omega)).trans HM.out)
    have hIf : Ir wf wb.heap.size v xs := hrow_fr hI (Fr.below (F := fun _ => False) hbf) (fun _ _ => id)
    have hI2 : Ir wf w.heap.size v xs := by
      refine ⟨hIf.1, ?_⟩
      rcases hIf.2 with q | ⟨g, cap, cur, q1, q2, q3⟩
      · exact .inl q
      · exact .inr ⟨g, cap, cur, q1, by omega, q3⟩
    have hvn : v.ownBlock ≠ some w1.heap.size := fun e => by have := (World.ownsRow.lt hI _ e).2; omega
    have HBA : Hid (Below w.heap.size w wf) := hide2 ((HB.out.trans ⟨hb1.os, hb1.tape, hb1.output, hb1.size, fun j hj => hb1.block j (by omega)⟩).trans ⟨hbf.os, hbf.tape, hbf.output, hbf.size, fun j hj => hbf.block j (by omega)⟩)
    have BL := hide2 bl
    have E3 := hide2 e3
    have EM := hide2 em
    have HI2 := hide2 hI2
    have HVN := hide2 hvn
    obtain ⟨va, vn, vc, ev⟩ : ∃ a n c, v = Value.slice a n c := by obtain ⟨a, c, e, _⟩ := hI.seq; exact ⟨a, _, c, e⟩
    clear HC hI hb1 bl hbf e3 em hIf hI2 hvn hwb
    subst ev
    go_wp2
    try rw [← hwf]
    go_ret
    exact ⟨_, _, _, _, rfl, BL.out, E3.out, EM.out, HI2.out, by omega, by omega, by omega, HVN.out, HBA.out⟩)
  clear hs
  go_enter Tryd.func17, Tryd.ntmps17
  go_wp2_with fail
  refine HNB.out.mono ?_
  rintro e w1 ⟨lb, s3, mk, v, rfl, b1, b2, b3, hI, g1, g2, g3, hvn, hb1⟩
  have hs1 := hb1.size
  obtain ⟨wf, hwf⟩ : ∃ q, q = w1.alloc (.cells #[.pointer po, .func (.func 69) #[] #[.pointer (some ⟨lb, 0, none⟩), .pointer (some ⟨s3, 0, none⟩), .pointer (some ⟨mk, 0, none⟩)], .int .i64 0, .bool false] 82) := ⟨_, rfl⟩
  have bo : wf.heap[w1.heap.size]? = some (.cells #[.pointer po, .func (.func 69) #[] #[.pointer (some ⟨lb, 0, none⟩), .pointer (some ⟨s3, 0, none⟩), .pointer (some ⟨mk, 0, none⟩)], .int .i64 0, .bool false] 82 (0, 0)) := by rw [hwf]; exact heap_alloc_new w1 _
  have hbf : Below w1.heap.size w1 wf := by rw [hwf]; exact (Below.refl _ w1).alloc (Nat.le_refl _) _
  have hsf : wf.heap.size = w1.heap.size + 1 := by rw [hwf]; simp
  have hIf : Ir wf w.heap.size v xs := hrow_fr hI (Fr.below (F := fun _ => False) hbf) (fun _ _ => id)
  have l1 := (Array.getElem?_eq_some_iff.1 b1).1
  have l2 := (Array.getElem?_eq_some_iff.1 b2).1
  have l3 := (Array.getElem?_eq_some_iff.1 b3).1
  obtain ⟨a9, c9, ev, hsq, hown⟩ := hIf.seq
  have hO : Opm wf w.heap.size (fun j => j = w1.heap.size ∨ j = lb ∨ j = s3 ∨ j = mk ∨ v.ownBlock = some j) w1.heap.size po xs mark 0 false := by
    refine ⟨⟨lb, s3, mk, a9, c9, bo, by rw [← ev]; exact (hbf.block _ l1).trans b1, (hbf.block _ l2).trans b2, (hbf.block _ l3).trans b3, hsq, .inl rfl, .inr (.inl rfl), .inr (.inr (.inl rfl)), .inr (.inr (.inr (.inl rfl))), fun b off e => ⟨.inr (.inr (.inr (.inr (hown b off e).1))), fun q => ?_, fun q => ?_⟩, fun e => ?_⟩, fun j hj => ?_⟩
    · have := (World.ownsRow.lt hI b (hown b off e).1).2
      omega
    · exact hvn (by rw [← q]; exact (hown b off e).1)
    · rcases hIf.2 with ⟨q, q0⟩ | ⟨g, cap, cur, q1, _⟩
      · rw [ev] at q
        injection q with q1 q2 q3
        exact ⟨List.length_eq_zero_iff.1 q0, q3⟩
      · rw [ev, e] at q1
        injection q1 with q1
        cases q1
    · rcases hj with e | e | e | e | e
      · omega
      · omega
      · omega
      · omega
      · have := World.ownsRow.lt hIf j e
        exact this
  have HO := hide2 hO
  have HBF : Hid (Below w.heap.size w wf) := hide2 (hb1.trans ⟨hbf.os, hbf.tape, hbf.output, hbf.size, fun j hj => hbf.block j (by omega)⟩)
  clear HNB b1 b2 b3 hI g1 g2 g3 hvn hb1 bo hbf hIf hsq hown hO ev l1 l2 l3
  go_wp2
  try rw [← hwf]
  go_ret
  exact ⟨_, _, rfl, HO.out, HBF.out⟩

theorem oisNone_nil : Calls Tryd.prog 43 #[.pointer none] w fun e w' => e = .returned (.bool true) ∧ w' = w := by
  go_enter Tryd.func43, Tryd.ntmps43
  go_wp2
  go_ret
  exact ⟨rfl, rfl⟩
theorem oisNone_any (h : Opm w B Q ob po left mark g dn) : Calls Tryd.prog 43 #[.pointer (some ⟨ob, 0, none⟩)] w fun e w' => e = .returned (.bool (po.isNone)) ∧ w' = w := by
  obtain ⟨⟨lb, s3, mk, ao, cap, h1, -⟩, -⟩ := h
  have c0 : w.cell? ⟨ob, 0, none⟩ = some (.pointer po) := by rw [Go.Joins.cell_of_block h1]; rfl
  have hl := (Array.getElem?_eq_some_iff.1 h1).1
  clear h1
  rcases po with _ | p
  · go_enter Tryd.func43, Tryd.ntmps43
    go_wp2
    go_ret
    exact ⟨rfl, rfl⟩
  · go_enter Tryd.func43, Tryd.ntmps43
    go_wp2
    go_ret
    exact ⟨rfl, rfl⟩
theorem ostep_nil : Calls Tryd.prog 20 #[.pointer none] w fun e w' => e = .returned (.bool true) ∧ w' = w := by
  have HI := hide2 (oisNone_nil (w := w))
  go_enter Tryd.func20, Tryd.ntmps20
  go_wp2_with fail
  refine HI.out.mono ?_
  rintro e w1 ⟨rfl, q⟩
  subst q
  go_wp2
  go_ret
  exact ⟨rfl, rfl⟩
theorem ostep_none (h : Opm w B Q ob none left mark g dn) : Calls Tryd.prog 20 #[.pointer (some ⟨ob, 0, none⟩)] w fun e w' => e = .returned (.bool true) ∧ w' = w := by
  have HI := hide2 (oisNone_any h)
  clear h
  go_enter Tryd.func20, Tryd.ntmps20
  go_wp2_with fail
  refine HI.out.mono ?_
  rintro e w1 ⟨rfl, q⟩
  subst q
  go_wp2
  go_ret
  exact ⟨rfl, rfl⟩
theorem ostep_done (h : Opm w B Q ob po left mark g true) : Calls Tryd.prog 20 #[.pointer (some ⟨ob, 0, none⟩)] w fun e w' => e = .returned (.bool true) ∧ w' = w := by
  have HI := hide2 (oisNone_any h)
  obtain ⟨⟨lb, s3, mk, ao, cap, h1, -⟩, -⟩ := h
  have c3 : w.cell? ⟨ob, 3, none⟩ = some (.bool true) := by rw [Go.Joins.cell_of_block h1]; rfl
  have hl := (Array.getElem?_eq_some_iff.1 h1).1
  clear h1
  rcases po with _ | p
  · go_enter Tryd.func20, Tryd.ntmps20
    go_wp2_with fail
    refine HI.out.mono ?_
    rintro e w1 ⟨rfl, q⟩
    subst q
    go_wp2
    go_ret
    exact ⟨rfl, rfl⟩
  · go_enter Tryd.func20, Tryd.ntmps20
    go_wp2_with fail
    refine HI.out.mono ?_
    rintro e w1 ⟨rfl, q⟩
    subst q
    go_wp2
    go_ret
    exact ⟨rfl, rfl⟩
theorem gone_nil : Calls Tryd.prog 18 #[.pointer none] w fun e w' => e = .returned (.tuple #[.int .i64 0, .int .i64 1]) ∧ w' = w := by
  have HI := hide2 (oisNone_nil (w := w))
  go_enter Tryd.func18, Tryd.ntmps18
  go_wp2_with fail
  refine HI.out.mono ?_
  rintro e w1 ⟨rfl, q⟩
  subst q
  go_wp2
  go_ret2
  exact ⟨rfl, rfl⟩
theorem gone_none (h : Opm w B Q ob none left mark g dn) : Calls Tryd.prog 18 #[.pointer (some ⟨ob, 0, none⟩)] w fun e w' => e = .returned (.tuple #[.int .i64 0, .int .i64 1]) ∧ w' = w := by
  have HI := hide2 (oisNone_any h)
  clear h
  go_enter Tryd.func18, Tryd.ntmps18
  go_wp2_with fail
  refine HI.out.mono ?_
  rintro e w1 ⟨rfl, q⟩
  subst q
  go_wp2
  go_ret2
  exact ⟨rfl, rfl⟩
theorem gone_early {p : Addr} (h : Opm w B Q ob (some p) left mark g false) : Calls Tryd.prog 18 #[.pointer (some ⟨ob, 0, none⟩)] w fun e w' => e = .returned (.tuple #[.int .i64 0, .int .i64 2]) ∧ w' = w := by
  have HI := hide2 (oisNone_any h)
  obtain ⟨⟨lb, s3, mk, ao, cap, h1, -⟩, -⟩ := h
  have c3 : w.cell? ⟨ob, 3, none⟩ = some (.bool false) := by rw [Go.Joins.cell_of_block h1]; rfl
  have hl := (Array.getElem?_eq_some_iff.1 h1).1
  clear h1
  go_enter Tryd.func18, Tryd.ntmps18
  go_wp2_with fail
  refine HI.out.mono ?_
  rintro e w1 ⟨rfl, q⟩
  subst q
  go_wp2
  go_ret2
  exact ⟨rfl, rfl⟩
theorem gone_late {p : Addr} (h : Opm w B Q ob (some p) left mark g true) : Calls Tryd.prog 18 #[.pointer (some ⟨ob, 0, none⟩)] w fun e w' => e = .returned (.tuple #[.int .i64 (g : Int), .int .i64 0]) ∧ w' = w := by
  have HI := hide2 (oisNone_any h)
  obtain ⟨⟨lb, s3, mk, ao, cap, h1, -⟩, -⟩ := h
  have c3 : w.cell? ⟨ob, 3, none⟩ = some (.bool true) := by rw [Go.Joins.cell_of_block h1]; rfl
  have c2 : w.cell? ⟨ob, 2, none⟩ = some (.int .i64 (g : Int)) := by rw [Go.Joins.cell_of_block h1]; rfl
  have hl := (Array.getElem?_eq_some_iff.1 h1).1
  clear h1
  go_enter Tryd.func18, Tryd.ntmps18
  go_wp2_with fail
  refine HI.out.mono ?_
  rintro e w1 ⟨rfl, q⟩
  subst q
  go_wp2
  go_ret2
  exact ⟨rfl, rfl⟩
end
end

section
open Go.RowKit Go.Maps

section
variable {w w' : World} {K Q : Nat → Prop} {sb d z M u B ob g : Nat} {A : Stt} {mark n : Int} {rest : List Int} {l : List Nat}
set_option maxRecDepth 100000 in
set_option maxHeartbeats 2000000 in
theorem next_zero {lb s3 mk : Nat} {ao : Option Addr} {cap : Nat} (hl : w.heap[lb]? = some (.cells #[.slice ao 0 cap] 29 (0, 0))) :
    Calls Tryd.prog 69 #[.pointer (some ⟨lb, 0, none⟩), .pointer (some ⟨s3, 0, none⟩), .pointer (some ⟨mk, 0, none⟩)] w fun e w' => e = .returned (.tuple #[.int .i64 0, .bool true]) ∧ ∃ q, w' = w.drewN q := by
  have c0 : w.cell? ⟨lb, 0, none⟩ = some (.slice ao 0 cap) := by rw [Go.Joins.cell_of_block hl]; rfl
  have hll := (Array.getElem?_eq_some_iff.1 hl).1
  clear hl
  go_enter Tryd.func69, Tryd.ntmps69
  go_wp2
  go_quiet (fail)
  go_wp2
  go_ret2
  exact ⟨rfl, _, rfl⟩
theorem seq_tail {b off cap : Nat} (h : Seq 1 ih w (some ⟨b, off, none⟩) (rest.length + 1) cap (n :: rest)) (ao : Option Addr) (ha : 0 < rest.length → ao = some ⟨b, off + 1, none⟩) {cap' : Nat} (hc : cap' = cap - 1) : Seq 1 ih w ao rest.length cap' rest := by
  have h1 := h.2.1
  have h2 := h.2.2.1
  refine ⟨rfl, by omega, by omega, fun q => ?_⟩
  obtain ⟨b', off', e, hbl, hcl⟩ := h.2.2.2 (by omega)
  injection e with e
  injection e with e1 e2 e3
  subst e1 e2
  refine ⟨b, off + 1, ha q, hbl, fun i x hi j v hv => ?_⟩
  have := hcl (i + 1) x (by simpa using hi) j v hv
  rw [show off + 1 + i * 1 + j = off + (i + 1) * 1 + j by omega]
  exact this
set_option maxRecDepth 100000 in
set_option maxHeartbeats 4000000 in
theorem next_cons {lb s3 mk b off cap : Nat} (h : Rp w K sb d z M A u) (hn : i64ok n) (hc : ChN A n l) (hll : l.length < 1000000) (hM : M < 3600000000000000000)
    (h1 : w.heap[lb]? = some (.cells #[.slice (some ⟨b, off, none⟩) (rest.length + 1) cap] 29 (0, 0))) (h2 : w.heap[s3]? = some (.cells #[.pointer (some ⟨sb, 0, none⟩)] 30 (0, 0))) (h3 : w.heap[mk]? = some (.cells #[.int .i64 mark] 2 (0, 0)))
    (hs : Seq 1 ih w (some ⟨b, off, none⟩) (rest.length + 1) cap (n :: rest)) (k1 : ¬ K lb) (k2 : ¬ K s3) (k3 : ¬ K mk) (k4 : ¬ K b) (hne : b ≠ lb) (hlb : lb ≠ 0) :
    Calls Tryd.prog 69 #[.pointer (some ⟨lb, 0, none⟩), .pointer (some ⟨s3, 0, none⟩), .pointer (some ⟨mk, 0, none⟩)] w fun e w' => e = .returned (.tuple #[.int .i64 (goneN mark A l : Nat), .bool rest.isEmpty]) ∧ 3 * goneN mark A l ≤ u ∧
      ∃ K' ao' cap', Rp w' K' sb d z (M + 10 + 5 * l.length) (swpA mark A n.toNat l) (u - 3 * goneN mark A l) ∧ (∀ j, j < w.heap.size → (K' j ↔ K j)) ∧ Fr (fun j => K j ∨ j = lb) w w' ∧ w'.heap[lb]? = some (.cells #[.slice ao' rest.length cap'] 29 (0, 0)) ∧ Seq 1 ih w' ao' rest.length cap' rest ∧ ∃ off', ao' = some ⟨b, off', none⟩ := by
  have l1 := (Array.getElem?_eq_some_iff.1 h1).1
  have l2 := (Array.getElem?_eq_some_iff.1 h2).1
  have l3 := (Array.getElem?_eq_some_iff.1 h3).1
  obtain ⟨b', off', e0, l4, hcell⟩ := hs.2.2.2 (by omega)
  injection e0 with e0
  injection e0 with e1 e2 e3
  subst e1 e2
  have c0 : w.cell? ⟨lb, 0, none⟩ = some (.slice (some ⟨b, off, none⟩) (rest.length + 1) cap) := by rw [Go.Joins.cell_of_block h1]; rfl
  have c1 : w.cell? ⟨s3, 0, none⟩ = some (.pointer (some ⟨sb, 0, none⟩)) := by rw [Go.Joins.cell_of_block h2]; rfl
  have c2 : w.cell? ⟨mk, 0, none⟩ = some (.int .i64 mark) := by rw [Go.Joins.cell_of_block h3]; rfl
  have c3 : w.cell? ⟨b, off, none⟩ = some (.int .i64 n) := by have := hcell 0 n rfl 0 _ rfl; simpa using this
  have hcap := hs.2.1
  have hmax := hs.2.2.1
  unfold maxLen at hmax
  have HSW := hide2 (sweepNode_any (w := w.drew) (h.keep (G := fun _ => False) (Fr.refl _ w).drew (fun _ _ e => e) id) hn hc mark hll hM)
  have HS := hide2 hs
  have H1 := hide2 h1
  have FRC : Hid (∀ w5, Fr K w.drew w5 → w5.cell? ⟨s3, 0, none⟩ = some (.pointer (some ⟨sb, 0, none⟩)) ∧ w5.cell? ⟨lb, 0, none⟩ = some (.slice (some ⟨b, off, none⟩) (rest.length + 1) cap) ∧ w5.cell? ⟨b, off, none⟩ = some (.int .i64 n) ∧ w5.cell? ⟨mk, 0, none⟩ = some (.int .i64 mark) ∧ s3 < w5.heap.size ∧ lb < w5.heap.size ∧ b < w5.heap.size ∧ mk < w5.heap.size) := hide2 (fun w5 h5 => by
    have hsz := h5.size
    have hsz2 : w.drew.heap.size = w.heap.size := rfl
    refine ⟨(h5.cell (p := ⟨s3, 0, none⟩) l2 k2).trans c1, (h5.cell (p := ⟨lb, 0, none⟩) l1 k1).trans c0, (h5.cell (p := ⟨b, off, none⟩) l4 k4).trans c3, (h5.cell (p := ⟨mk, 0, none⟩) l3 k3).trans c2, by omega, by omega, by omega, by omega⟩)
  have gt : ((rest.length + 1 : Nat) : Int) > 0 := by omega
  have gt2 : (0 : Int) < ((rest.length + 1 : Nat) : Int) := by omega
  have gt3 : decide ((0 : Int) < ((rest.length + 1 : Nat) : Int)) = true := by simp
  have HK1 := hide2 k1
  have HKB := hide2 k4
  clear h hc h1 h2 h3 hs hcell k1 k2 k3 k4
  go_enter Tryd.func69, Tryd.ntmps69
  go_wp2_with fail
  refine wp_region_noPanic ?_
  refine wp_region_held_drew (S := (fun u : World => u.cell? ⟨s3, 0, none⟩ = some (.pointer (some ⟨sb, 0, none⟩)) ∧ u.cell? ⟨lb, 0, none⟩ = some (.slice (some ⟨b, off, none⟩) (rest.length + 1) cap) ∧ u.cell? ⟨b, off, none⟩ = some (.int .i64 n) ∧ u.cell? ⟨mk, 0, none⟩ = some (.int .i64 mark) ∧ s3 < u.heap.size ∧ lb < u.heap.size ∧ b < u.heap.size ∧ mk < u.heap.size)) (by kernel_rfl) (⟨c1, c0, c3, c2, l2, l1, l4, l3⟩) (fun hHeld => ?_)
  refine wpAnyH_take (i := 0) (oi := { dst := some 9, op := _, type := _, pos := _, after := _, guard := _ }) (v := ?_) rfl (by kernel_rfl) (by kernel_rfl) (by kernel_rfl) (fun _ _ _ h => h) (Or.inl ⟨by rfl, ?_⟩) (by assumption) ?_
  rotate_left 1
  · intro u hSw; obtain ⟨s1, s2, s3, s4, s5, s6, s7, s8⟩ := hSw; go_simp; try with_reducible rfl
  try simp only [Act.put, List.setIfInBounds_toArray, List.set_cons_zero, List.set_cons_succ]
  refine wpAnyH_take (i := 1) (oi := { dst := some 10, op := _, type := _, pos := _, after := _, guard := _ }) (v := ?_) rfl (by kernel_rfl) (by kernel_rfl) (by kernel_rfl) (fun _ _ _ h => h) (Or.inl ⟨by rfl, ?_⟩) (by assumption) ?_
  rotate_left 1
  · intro u hSw; obtain ⟨s1, s2, s3, s4, s5, s6, s7, s8⟩ := hSw; go_simp; try with_reducible rfl
  try simp only [Act.put, List.setIfInBounds_toArray, List.set_cons_zero, List.set_cons_succ]
  refine wpAnyH_take (i := 2) (oi := { dst := some 11, op := _, type := _, pos := _, after := _, guard := _ }) (v := ?_) rfl (by kernel_rfl) (by kernel_rfl) (by kernel_rfl) (fun _ _ _ h => h) (Or.inl ⟨by rfl, ?_⟩) (by assumption) ?_
  rotate_left 1
  · intro u hSw; obtain ⟨s1, s2, s3, s4, s5, s6, s7, s8⟩ := hSw; go_simp; try with_reducible rfl
  try simp only [Act.put, List.setIfInBounds_toArray, List.set_cons_zero, List.set_cons_succ]
  refine wpAnyH_take (i := 3) (oi := { dst := some 12, op := _, type := _, pos := _, after := _, guard := _ }) (v := ?_) rfl (by kernel_rfl) (by kernel_rfl) (by kernel_rfl) (fun _ _ _ h => h) (Or.inl ⟨by rfl, ?_⟩) (by assumption) ?_
  rotate_left 1
  · intro u hSw; obtain ⟨s1, s2, s3, s4, s5, s6, s7, s8⟩ := hSw; go_simp; try with_reducible rfl
  try simp only [Act.put, List.setIfInBounds_toArray, List.set_cons_zero, List.set_cons_succ]
  refine wpAnyH_take (i := 4) (oi := { dst := some 13, op := _, type := _, pos := _, after := _, guard := _ }) (v := ?_) rfl (by kernel_rfl) (by kernel_rfl) (by kernel_rfl) (fun _ _ _ h => h) (Or.inl ⟨by rfl, ?_⟩) (by assumption) ?_
  rotate_left 1
  · intro u hSw; obtain ⟨s1, s2, s3, s4, s5, s6, s7, s8⟩ := hSw; go_simp; try with_reducible rfl
  try simp only [Act.put, List.setIfInBounds_toArray, List.set_cons_zero, List.set_cons_succ]
  refine wpAnyH_ready (rs := [5]) (by kernel_rfl) (by simp) ?_
  refine AllReadyH.cons (o := { dst := some 14, op := _, type := _, pos := _, after := _, guard := _ }) rfl (fun Kq hK => ?_) AllReadyH.nil
  obtain ⟨s1, s2, s3, s4, s5, s6, s7, s8⟩ := hHeld
  go_simp
  refine HSW.out.mono ?_
  rintro e w5 ⟨rfl, hu5, K5, hR5, hk5, hF5⟩
  go_wp2_with fail
  refine hK.out _ _ (FRC.out w5 hF5) (fun hHeld => ?_)
  clear hK Kq
  try simp only [Act.put, List.setIfInBounds_toArray, List.set_cons_zero, List.set_cons_succ]
  refine wpAnyH_take (i := 6) (oi := { dst := some 5, op := _, type := _, pos := _, after := _, guard := _ }) (v := ?_) rfl (by kernel_rfl) (by kernel_rfl) (by kernel_rfl) (fun _ _ _ h => h) (Or.inl ⟨by rfl, ?_⟩) (by assumption) ?_
  rotate_left 1
  · intro u hSw; obtain ⟨s1, s2, s3, s4, s5, s6, s7, s8⟩ := hSw; go_simp; try with_reducible rfl
  try simp only [Act.put, List.setIfInBounds_toArray, List.set_cons_zero, List.set_cons_succ]
  refine wpAnyH_done (by kernel_rfl) ?_ _
  refine NoPanic.normal ?_
  obtain ⟨y1, y0, y3, y2, m2, m1, m4, m3⟩ := hHeld
  have hF : Fr K w w5 := (Fr.refl K w).drew.trans hF5 (fun j e => .inl e)
  have hb5 := (hF.block lb l1 HK1.out).trans H1.out
  have fz : w5.frozen? ⟨lb, 0, none⟩ = false := Go.Joins.unfrozen_of_block hb5 0
  have sq5 : Seq 1 ih w5 (some ⟨b, off, none⟩) (rest.length + 1) cap (n :: rest) := ⟨HS.out.1, HS.out.2.1, HS.out.2.2.1, fun q => by
    obtain ⟨b', off', e, hbl, hc⟩ := HS.out.2.2.2 q
    injection e with e
    injection e with e1 e2 e3
    subst e1 e2
    exact ⟨b, off, rfl, m4, fun i x hi j v hv => (hF.cell (p := ⟨b, off + i * 1 + j, none⟩) l4 HKB.out).trans (hc i x hi j v hv)⟩⟩
  have HFIN : Hid (∀ ao' cap' off' q, (0 < rest.length → ao' = some ⟨b, off + 1, none⟩) → cap' = cap - 1 → ao' = some ⟨b, off', none⟩ → 3 * goneN mark A l ≤ u ∧ ∃ K' ao2 cap2, Rp ((w5.setCell ⟨lb, 0, none⟩ (.slice ao' rest.length cap')).drewN q) K' sb d z (M + 10 + 5 * l.length) (swpA mark A n.toNat l) (u - 3 * goneN mark A l) ∧ (∀ j, j < w.heap.size → (K' j ↔ K j)) ∧ Fr (fun j => K j ∨ j = lb) w ((w5.setCell ⟨lb, 0, none⟩ (.slice ao' rest.length cap')).drewN q) ∧ ((w5.setCell ⟨lb, 0, none⟩ (.slice ao' rest.length cap')).drewN q).heap[lb]? = some (.cells #[.slice ao2 rest.length cap2] 29 (0, 0)) ∧ Seq 1 ih ((w5.setCell ⟨lb, 0, none⟩ (.slice ao' rest.length cap')).drewN q) ao2 rest.length cap2 rest ∧ ∃ off', ao2 = some ⟨b, off', none⟩) := hide2 (fun ao' cap' off' q ha hc' he => by
    have hF6 : Fr (fun j => j = lb) w5 ((w5.setCell ⟨lb, 0, none⟩ (.slice ao' rest.length cap')).drewN q) := (Fr.setCell (p := ⟨lb, 0, none⟩) (Fr.refl (fun j => j = lb) w5) (.inl rfl) _).drewN q
    have hnk : ∀ j, K5 j → ¬ j = lb := fun j hj e => HK1.out ((hk5 lb l1).1 (e ▸ hj))
    refine ⟨hu5, K5, ao', cap', hR5.keep hF6 hnk (fun e => hlb e.symm), hk5, (hF.mono (G := fun j => K j ∨ j = lb) (fun j _ e => .inl e)).trans hF6 (fun j e => .inl (.inr e)), ?_, ?_, off', he⟩
    · show (w5.setCell ⟨lb, 0, none⟩ (.slice ao' rest.length cap')).heap[lb]? = _
      rw [Go.Joins.block_setCell hb5]; rfl
    · have st := seq_tail sq5 ao' ha hc'
      refine ⟨st.1, st.2.1, st.2.2.1, fun q => ?_⟩
      obtain ⟨b', off', e, hbl, hc⟩ := st.2.2.2 q
      have hs6 := hF6.size
      have eb : b' = b := by rw [ha q] at e; injection e with e; injection e with e; exact e.symm
      exact ⟨b', off', e, by omega, fun i x hi j v hv => (hF6.cell (p := ⟨b', off' + i * 1 + j, none⟩) hbl (by rw [eb]; exact hne)).trans (hc i x hi j v hv)⟩)
  clear FRC HSW hu5 hR5 hk5 hF5 hF hb5 sq5 c0 c1 c2 c3 H1 HS y1 y2 y3
  have hor : rest = [] ∨ ∃ n2 r2, rest = n2 :: r2 := by
    cases rest with
    | nil => exact .inl rfl
    | cons n2 r2 => exact .inr ⟨n2, r2, rfl⟩
  rcases hor with hr | ⟨n2, r2, hr⟩
  · subst hr
    by_cases hcp : 1 < cap
    · have k1 : (1 : Int) < (cap : Int) := by omega
      have HX := hide2 (fun q => HFIN.out (some ⟨b, off + 1, none⟩) (cap - 1) (off + 1) q (fun _ => rfl) rfl rfl)
      clear HFIN
      go_wp2
      go_quiet (fail)
      go_wp2
      go_ret2
      exact ⟨rfl, HX.out _⟩
    · have k1 : cap = 1 := by simp at hcap; omega
      subst k1
      have HX := hide2 (fun q => HFIN.out (some ⟨b, off, none⟩) 0 off q (fun e => by simp at e) rfl rfl)
      clear HFIN
      go_wp2
      go_quiet (fail)
      go_wp2
      go_ret2
      exact ⟨rfl, HX.out _⟩
  · subst hr
    have k1 : (1 : Int) < (cap : Int) := by simp at hcap; omega
    have HX := hide2 (fun q => HFIN.out (some ⟨b, off + 1, none⟩) (cap - 1) (off + 1) q (fun _ => rfl) rfl rfl)
    clear HFIN
    go_wp2
    go_quiet (fail)
    go_wp2
    go_ret2
    exact ⟨rfl, HX.out _⟩
end
end

section
open Go.RowKit Go.Maps

theorem eg_next : ∀ args w, (callFunc 69 args).run Tryd.prog w = .ok (.enter 69 args) w := enters_of Tryd.func69 (by kernel_rfl) rfl
section
variable {w w' : World} {K Q : Nat → Prop} {sb d z M u B ob g : Nat} {A : Stt} {mark n : Int} {rest : List Int} {l : List Nat}
theorem swpA_la (mark : Int) (A : Stt) (n : Nat) (l : List Nat) : (swpA mark A n l).la = A.la := by
  unfold swpA
  split
  · rfl
  · split
    · rw [offs_la]; rfl
    · show (offs _ _).la = _
      rw [offs_la]; rfl
/-- What a step sets in an operation's own block. -/
theorem Opm.set {w5 : World} {po : Option Addr} {left left' : List Int} {dn' : Bool} {g' lb s3 mk : Nat} {ao : Option Addr} {cap : Nat} {v2 : Value} {dn : Bool}
    (hb : w5.heap[ob]? = some (.cells #[.pointer po, .func (.func 69) #[] #[.pointer (some ⟨lb, 0, none⟩), .pointer (some ⟨s3, 0, none⟩), .pointer (some ⟨mk, 0, none⟩)], v2, .bool dn] 82 (0, 0)))
    (h1 : w5.heap[lb]? = some (.cells #[.slice ao left'.length cap] 29 (0, 0))) (h2 : w5.heap[s3]? = some (.cells #[.pointer po] 30 (0, 0))) (h3 : w5.heap[mk]? = some (.cells #[.int .i64 mark] 2 (0, 0))) (hs : Seq 1 ih w5 ao left'.length cap left')
    (q1 : Q ob) (q2 : Q lb) (q3 : Q s3) (q4 : Q mk) (q5 : ∀ b off, ao = some ⟨b, off, none⟩ → Q b ∧ b ≠ ob ∧ b ≠ lb) (q6 : ao = none → left' = [] ∧ cap = 0) (ql : ∀ j, Q j → B ≤ j ∧ j < w5.heap.size) :
    Opm ((w5.setCell ⟨ob, 2, none⟩ (.int .i64 (g' : Int))).setCell ⟨ob, 3, none⟩ (.bool dn')) B Q ob po left' mark g' dn' ∧ Fr Q w5 ((w5.setCell ⟨ob, 2, none⟩ (.int .i64 (g' : Int))).setCell ⟨ob, 3, none⟩ (.bool dn')) := by
  have hF : Fr (fun j => j = ob) w5 ((w5.setCell ⟨ob, 2, none⟩ (.int .i64 (g' : Int))).setCell ⟨ob, 3, none⟩ (.bool dn')) := Fr.setCell (p := ⟨ob, 3, none⟩) (Fr.setCell (p := ⟨ob, 2, none⟩) (Fr.refl (fun j => j = ob) w5) (.inl rfl) _) (.inl rfl) _
  have n1 : lb ≠ ob := fun e => by rw [e, hb] at h1; simp at h1
  have n2 : s3 ≠ ob := fun e => by rw [e, hb] at h2; simp at h2
  have n3 : mk ≠ ob := fun e => by rw [e, hb] at h3; simp at h3
  have l1 := (Array.getElem?_eq_some_iff.1 h1).1
  have l2 := (Array.getElem?_eq_some_iff.1 h2).1
  have l3 := (Array.getElem?_eq_some_iff.1 h3).1
  have hsz := hF.size
  refine ⟨⟨⟨lb, s3, mk, ao, cap, ?_, (hF.block _ l1 n1).trans h1, (hF.block _ l2 n2).trans h2, (hF.block _ l3 n3).trans h3, ⟨hs.1, hs.2.1, hs.2.2.1, fun q => ?_⟩, q1, q2, q3, q4, q5, q6⟩, fun j hj => ⟨(ql j hj).1, by have := (ql j hj).2; omega⟩⟩, hF.mono (fun j _ e => by rw [e]; exact q1)⟩
  · rw [Go.Joins.block_setCell (Go.Joins.block_setCell hb _)]; rfl
  · obtain ⟨b, off, e, hbl, hc⟩ := hs.2.2.2 q
    exact ⟨b, off, e, by omega, fun i x hi j v hv => (hF.cell (p := ⟨b, off + i * 1 + j, none⟩) hbl (q5 b off e).2.1).trans (hc i x hi j v hv)⟩
set_option maxRecDepth 100000 in
set_option maxHeartbeats 2000000 in
theorem ostep_zero {p : Addr} (h : Opm w B Q ob (some p) [] mark g false) (hg : g < 1000000000) :
    Calls Tryd.prog 20 #[.pointer (some ⟨ob, 0, none⟩)] w fun e w' => e = .returned (.bool true) ∧ Opm w' B Q ob (some p) [] mark g true ∧ Fr Q w w' := by
  have eg := eg_next
  have HI := hide2 (oisNone_any h)
  obtain ⟨⟨lb, s3, mk, ao, cap, h0, h1, h2, h3, hs, q1, q2, q3, q4, q5, q6⟩, ql⟩ := h
  have HN := hide2 (next_zero (s3 := s3) (mk := mk) h1)
  have hol := (Array.getElem?_eq_some_iff.1 h0).1
  have c1 : w.cell? ⟨ob, 1, none⟩ = some (.func (.func 69) #[] #[.pointer (some ⟨lb, 0, none⟩), .pointer (some ⟨s3, 0, none⟩), .pointer (some ⟨mk, 0, none⟩)]) := by rw [Go.Joins.cell_of_block h0]; rfl
  have c2 : w.cell? ⟨ob, 2, none⟩ = some (.int .i64 (g : Int)) := by rw [Go.Joins.cell_of_block h0]; rfl
  have c3 : w.cell? ⟨ob, 3, none⟩ = some (.bool false) := by rw [Go.Joins.cell_of_block h0]; rfl
  have fz : ∀ i, w.frozen? ⟨ob, i, none⟩ = false := fun i => Go.Joins.unfrozen_of_block h0 i
  have f2 := fz 2
  have f3 := fz 3
  have HX : Hid (∀ q, Opm (((w.drewN q).setCell ⟨ob, 2, none⟩ (.int .i64 (g : Int))).setCell ⟨ob, 3, none⟩ (.bool true)) B Q ob (some p) [] mark g true ∧ Fr Q w (((w.drewN q).setCell ⟨ob, 2, none⟩ (.int .i64 (g : Int))).setCell ⟨ob, 3, none⟩ (.bool true))) := hide2 (fun q => by
    have hsd : Seq 1 ih (w.drewN q) ao 0 cap [] := hs
    obtain ⟨a, b⟩ := Opm.set (g' := g) (dn' := true) (left' := []) (w5 := w.drewN q) (B := B) (Q := Q) (left := []) h0 h1 h2 h3 hsd q1 q2 q3 q4 q5 q6 ql
    exact ⟨a, (((Fr.refl Q w).drewN q).trans b (fun j e => .inl e))⟩)
  clear h0 h1 h2 h3 hs q1 q2 q3 q4 q5 q6 ql fz
  go_enter Tryd.func20, Tryd.ntmps20
  go_wp2_with fail
  refine HI.out.mono ?_
  rintro e w1 ⟨rfl, q⟩
  subst q
  clear HI
  go_wp2_with fail
  refine HN.out.mono ?_
  rintro e w2 ⟨rfl, q, hq⟩
  subst hq
  clear HN
  go_wp2
  go_ret
  exact ⟨rfl, HX.out _⟩
set_option maxRecDepth 100000 in
set_option maxHeartbeats 2000000 in
theorem ostep_cons (h : Rp w K sb d z M A u) (hO : Opm w B Q ob (some ⟨sb, 0, none⟩) (n :: rest) mark g false) (hB : 0 < B) (hap : ∀ j, Q j → ¬ K j) (hn : i64ok n) (hc : ChN A n l) (hll : l.length < 1000000) (hM : M < 3600000000000000000) (hg : g < 1000000000) :
    Calls Tryd.prog 20 #[.pointer (some ⟨ob, 0, none⟩)] w fun e w' => e = .returned (.bool rest.isEmpty) ∧ 3 * goneN mark A l ≤ u ∧ Opm w' B Q ob (some ⟨sb, 0, none⟩) rest mark (g + goneN mark A l) rest.isEmpty ∧
      ∃ K', Rp w' K' sb d z (M + 10 + 5 * l.length) (swpA mark A n.toNat l) (u - 3 * goneN mark A l) ∧ (∀ j, j < w.heap.size → (K' j ↔ K j)) ∧ Fr (fun j => K j ∨ Q j) w w' ∧ ∀ j, Q j → ¬ K' j := by
  have eg := eg_next
  have HI := hide2 (oisNone_any hO)
  obtain ⟨⟨lb, s3, mk, ao, cap, h0, h1, h2, h3, hs, q1, q2, q3, q4, q5, q6⟩, ql⟩ := hO
  obtain ⟨b, off, rfl, hbl, hcell⟩ := hs.2.2.2 (by simp)
  have hlb : lb ≠ 0 := fun e => by have := (ql lb q2).1; omega
  have HN := hide2 (next_cons (rest := rest) h hn hc hll hM h1 h2 h3 hs (hap _ q2) (hap _ q3) (hap _ q4) (hap _ (q5 b off rfl).1) (q5 b off rfl).2.2 hlb)
  have hgl : goneN mark A l ≤ l.length := by unfold goneN; omega
  have hol := (Array.getElem?_eq_some_iff.1 h0).1
  have c1 : w.cell? ⟨ob, 1, none⟩ = some (.func (.func 69) #[] #[.pointer (some ⟨lb, 0, none⟩), .pointer (some ⟨s3, 0, none⟩), .pointer (some ⟨mk, 0, none⟩)]) := by rw [Go.Joins.cell_of_block h0]; rfl
  have c2 : w.cell? ⟨ob, 2, none⟩ = some (.int .i64 (g : Int)) := by rw [Go.Joins.cell_of_block h0]; rfl
  have c3 : w.cell? ⟨ob, 3, none⟩ = some (.bool false) := by rw [Go.Joins.cell_of_block h0]; rfl
  have n1 : ob ≠ lb := fun e => by rw [← e, h0] at h1; simp at h1
  have l2 := (Array.getElem?_eq_some_iff.1 h2).1
  have l3 := (Array.getElem?_eq_some_iff.1 h3).1
  have n2 : s3 ≠ lb := fun e => by rw [e, h1] at h2; simp at h2
  have n3 : mk ≠ lb := fun e => by rw [e, h1] at h3; simp at h3
  have FIN : Hid (∀ (w2 : World) (K' : Nat → Prop) (ao' : Option Addr) (cap' : Nat), Rp w2 K' sb d z (M + 10 + 5 * l.length) (swpA mark A n.toNat l) (u - 3 * goneN mark A l) → (∀ j, j < w.heap.size → (K' j ↔ K j)) → Fr (fun j => K j ∨ j = lb) w w2 → w2.heap[lb]? = some (.cells #[.slice ao' rest.length cap'] 29 (0, 0)) → Seq 1 ih w2 ao' rest.length cap' rest → (∃ off', ao' = some ⟨b, off', none⟩) →
      w2.heap[ob]? = some (.cells #[.pointer (some ⟨sb, 0, none⟩), .func (.func 69) #[] #[.pointer (some ⟨lb, 0, none⟩), .pointer (some ⟨s3, 0, none⟩), .pointer (some ⟨mk, 0, none⟩)], .int .i64 (g : Int), .bool false] 82 (0, 0)) ∧
      Opm ((w2.setCell ⟨ob, 2, none⟩ (.int .i64 ((g + goneN mark A l : Nat) : Int))).setCell ⟨ob, 3, none⟩ (.bool rest.isEmpty)) B Q ob (some ⟨sb, 0, none⟩) rest mark (g + goneN mark A l) rest.isEmpty ∧
      ∃ K', Rp ((w2.setCell ⟨ob, 2, none⟩ (.int .i64 ((g + goneN mark A l : Nat) : Int))).setCell ⟨ob, 3, none⟩ (.bool rest.isEmpty)) K' sb d z (M + 10 + 5 * l.length) (swpA mark A n.toNat l) (u - 3 * goneN mark A l) ∧ (∀ j, j < w.heap.size → (K' j ↔ K j)) ∧ Fr (fun j => K j ∨ Q j) w ((w2.setCell ⟨ob, 2, none⟩ (.int .i64 ((g + goneN mark A l : Nat) : Int))).setCell ⟨ob, 3, none⟩ (.bool rest.isEmpty)) ∧ ∀ j, Q j → ¬ K' j) := hide2 (fun w2 K' ao' cap' hR hk hF hlb2 hsq hoff => by
    have hs2 := hF.size
    have b0 := (hF.block ob hol (fun e => by rcases e with e | e; exact hap _ q1 e; exact n1 e)).trans h0
    have b2 := (hF.block s3 l2 (fun e => by rcases e with e | e; exact hap _ q3 e; exact n2 e)).trans h2
    have b3 := (hF.block mk l3 (fun e => by rcases e with e | e; exact hap _ q4 e; exact n3 e)).trans h3
    obtain ⟨off', eo⟩ := hoff
    obtain ⟨a, c⟩ := Opm.set (g' := g + goneN mark A l) (dn' := rest.isEmpty) (left' := rest) (w5 := w2) (B := B) (Q := Q) (left := rest) b0 hlb2 b2 b3 hsq q1 q2 q3 q4 (fun b' o' e => by
      rw [eo] at e
      injection e with e
      injection e with e1 e2 e3
      subst e1
      exact q5 b off rfl) (fun e => by rw [eo] at e; cases e) (fun j hj => ⟨(ql j hj).1, by have := (ql j hj).2; omega⟩)
    have hnk : ∀ j, Q j → ¬ K' j := fun j hj e => hap j hj ((hk j (ql j hj).2).1 e)
    refine ⟨b0, a, K', hR.keep c (fun j hj e => hnk j e hj) (fun e => by have := (ql 0 e).1; omega), hk, (hF.mono (G := fun j => K j ∨ Q j) (fun j _ e => by
      rcases e with e | e
      · exact .inl e
      · exact .inr (by rw [e]; exact q2))).trans c (fun j e => .inl (.inr e)), hnk⟩)
  clear h hc h0 h1 h2 h3 hs q1 q2 q3 q4 q5 q6 ql hap hcell
  go_enter Tryd.func20, Tryd.ntmps20
  go_wp2_with fail
  refine HI.out.mono ?_
  rintro e w1 ⟨rfl, q⟩
  subst q
  clear HI
  go_wp2_with fail
  refine HN.out.mono ?_
  rintro e w2 ⟨rfl, hu, K', ao', cap', r1, r2, r3, r4, r5, r6⟩
  obtain ⟨b0, f1⟩ := FIN.out w2 K' ao' cap' r1 r2 r3 r4 r5 r6
  have y2 : w2.cell? ⟨ob, 2, none⟩ = some (.int .i64 (g : Int)) := by rw [Go.Joins.cell_of_block b0]; rfl
  have y3 : w2.cell? ⟨ob, 3, none⟩ = some (.bool false) := by rw [Go.Joins.cell_of_block b0]; rfl
  have f2 : w2.frozen? ⟨ob, 2, none⟩ = false := Go.Joins.unfrozen_of_block b0 2
  have f3 : w2.frozen? ⟨ob, 3, none⟩ = false := Go.Joins.unfrozen_of_block b0 3
  have hol2 := (Array.getElem?_eq_some_iff.1 b0).1
  simp only [Int.natCast_add] at f1
  have F1 := hide2 f1
  have HU := hide2 hu
  obtain ⟨gl, hgl2⟩ : ∃ x, x = goneN mark A l := ⟨_, rfl⟩
  rw [← hgl2] at F1 HU hgl
  rw [← hgl2]
  have HG := hide2 hgl2
  clear HN FIN r1 r2 r3 r4 r5 r6 b0 f1 hu c1 c2 c3 hgl2
  go_wp2
  go_ret
  rw [← HG.out]
  exact ⟨rfl, HU.out, F1.out⟩
end
end

section
open Go.RowKit Go.Maps

section
variable {w w' : World} {K Q : Nat → Prop} {sb d z M u B ob g : Nat} {A : Stt} {mark n : Int} {xs : List Int} {l : List Nat}
set_option maxRecDepth 100000 in
set_option maxHeartbeats 2000000 in
theorem done_zero {p : Addr} (h : Opm w B Q ob (some p) [] mark g false) (hg : g < 1000000000) {most : Int} (hm : 1 ≤ most) (hm9 : most ≤ 1000000000000) :
    Calls Tryd.prog 19 #[.pointer (some ⟨ob, 0, none⟩), .int .i64 most] w fun e w' => e = .returned (.int .i64 1) ∧ Opm w' B Q ob (some p) [] mark g true ∧ Fr Q w w' := by
  have HS := hide2 (ostep_zero h hg)
  clear h
  go_enter Tryd.func19, Tryd.ntmps19
  go_wp2
  go_loopw [5] (fun a wr => a = .int .i64 1 ∧ wr = w) (fun _ _ => 0)
  case atStart => exact ⟨rfl, rfl⟩
  case round =>
    obtain ⟨rfl, rfl⟩ := hrel
    go_wp2_with fail
    refine HS.out.mono ?_
    rintro e w1 ⟨rfl, q1, q2⟩
    have Q1 := hide2 q1
    have Q2 := hide2 q2
    clear HS q1 q2
    go_wp2
    go_ret
    exact ⟨rfl, Q1.out, Q2.out⟩
set_option maxRecDepth 100000 in
set_option maxHeartbeats 4000000 in
theorem done_any (h : Rp w K sb d z M A u) (hO : Opm w B Q ob (some ⟨sb, 0, none⟩) xs mark 0 false) (hB : 0 < B) (hap : ∀ j, Q j → ¬ K j) (hxs : ∀ x ∈ xs, i64ok x) (hne : 0 < xs.length) (hla : A.la 1 ≤ 5000) (hlen : xs.length ≤ 1000) (hM : M < 3000000000000000000) (hu : u ≤ 1000000) {most : Int} (hm : (xs.length : Int) ≤ most) (hm9 : most ≤ 1000000000000) :
    Calls Tryd.prog 19 #[.pointer (some ⟨ob, 0, none⟩), .int .i64 most] w fun e w' => e = .returned (.int .i64 (xs.length : Nat)) ∧ ∃ A' G K', Sws mark A xs A' G ∧ 3 * G ≤ u ∧ A'.la = A.la ∧ Rp w' K' sb d z (M + 30000 * xs.length) A' (u - 3 * G) ∧ Opm w' B Q ob (some ⟨sb, 0, none⟩) [] mark G true ∧ (∀ j, j < w.heap.size → (K' j ↔ K j)) ∧ Fr (fun j => K j ∨ Q j) w w' ∧ ∀ j, Q j → ¬ K' j := by
  have H0 := hide2 h
  have HO0 := hide2 hO
  have HAP := hide2 hap
  have HXS := hide2 hxs
  clear h hO hap hxs
  go_enter Tryd.func19, Tryd.ntmps19
  go_wp2
  go_loopw [5] (fun a wr => ∃ (k : Nat) (A1 : Stt) (G1 : Nat) (K1 : Nat → Prop), k < xs.length ∧ a = .int .i64 ((k : Int) + 1) ∧ Hid (Sws mark A (xs.take k) A1 G1) ∧ 3 * G1 ≤ u ∧ Hid (A1.la = A.la) ∧ Hid (Rp wr K1 sb d z (M + 30000 * k) A1 (u - 3 * G1)) ∧ Hid (Opm wr B Q ob (some ⟨sb, 0, none⟩) (xs.drop k) mark G1 false) ∧ Hid (∀ j, j < w.heap.size → (K1 j ↔ K j)) ∧ Hid (Fr (fun j => K j ∨ Q j) w wr) ∧ Hid (∀ j, Q j → ¬ K1 j)) (fun a _ => xs.length + 1 - (intOf a).toNat)
  case atStart => exact ⟨0, A, 0, K, hne, rfl, hide2 ⟨rfl, rfl⟩, by omega, hide2 rfl, H0, HO0, hide2 (fun _ _ => Iff.rfl), hide2 (Fr.refl _ _), HAP⟩
  case round =>
    clear H0 HO0 HAP
    obtain ⟨k, A1, G1, K1, hk, rfl, SW, hG, LA, P, O, HK, HF, AP⟩ := hrel
    obtain ⟨x, hx⟩ := some_at (l := xs) rfl hk
    have hx2 : i64ok x := HXS.out x (List.mem_of_getElem? hx)
    have hdr : xs.drop k = x :: xs.drop (k + 1) := by
      rw [List.drop_eq_getElem_cons hk]
      rw [List.getElem?_eq_getElem hk] at hx
      rw [Option.some.inj hx]
    obtain ⟨l, hc, hll⟩ := chN_ex P.out.ok x
    have hla1 : A1.la 1 ≤ 5000 := by rw [LA.out]; exact hla
    have hO2 := O.out
    rw [hdr] at hO2
    have HST := hide2 (ostep_cons P.out hO2 hB AP.out hx2 hc (by omega) (by omega) (by omega))
    have HTK := hide2 (take_snoc hx)
    have HC := hide2 hc
    have hdl : (xs.drop (k + 1)).length = xs.length - (k + 1) := by simp
    have hgl : goneN mark A1 l ≤ l.length := by unfold goneN; omega
    have hle : ((k : Int) + 1) ≤ most := by omega
    have FIN : Hid (∀ wq K', 3 * goneN mark A1 l ≤ u - 3 * G1 → Opm wq B Q ob (some ⟨sb, 0, none⟩) (xs.drop (k + 1)) mark (G1 + goneN mark A1 l) (xs.drop (k + 1)).isEmpty → Rp wq K' sb d z (M + 30000 * k + 10 + 5 * l.length) (swpA mark A1 x.toNat l) (u - 3 * G1 - 3 * goneN mark A1 l) → (∀ j, j < wr.heap.size → (K' j ↔ K1 j)) → Fr (fun j => K1 j ∨ Q j) wr wq → (∀ j, Q j → ¬ K' j) → Hid (Sws mark A (xs.take (k + 1)) (swpA mark A1 x.toNat l) (G1 + goneN mark A1 l)) ∧ 3 * (G1 + goneN mark A1 l) ≤ u ∧ Hid ((swpA mark A1 x.toNat l).la = A.la) ∧ Hid (Rp wq K' sb d z (M + 30000 * (k + 1)) (swpA mark A1 x.toNat l) (u - 3 * (G1 + goneN mark A1 l))) ∧ Hid (∀ j, j < w.heap.size → (K' j ↔ K j)) ∧ Hid (Fr (fun j => K j ∨ Q j) w wq)) := hide2 (fun wq K' g1 g2 g3 g4 g5 g6 => by
      have hs := HF.out.size
      have eu : u - 3 * (G1 + goneN mark A1 l) = u - 3 * G1 - 3 * goneN mark A1 l := by omega
      refine ⟨hide2 (by rw [HTK.out]; exact SW.out.snoc HC.out), by omega, hide2 (by rw [swpA_la]; exact LA.out), hide2 (by rw [eu]; exact g3.up (by omega)), hide2 (fun j hj => (g4 j (by omega)).trans (HK.out j hj)), hide2 (HF.out.trans g5 (fun j e => ?_))⟩
      rcases e with e | e
      · rcases Nat.lt_or_ge j w.heap.size with q | q
        · exact .inl (.inl ((HK.out j q).1 e))
        · exact .inr q
      · exact .inl (.inr e))
    clear hc hO2 hdr hx HTK HC SW LA P HK HF
    by_cases hlast : k + 1 = xs.length
    · have hem : (xs.drop (k + 1)).isEmpty = true := by rw [hlast]; simp
      rw [hem] at HST FIN
      have HEM := hide2 hem
      clear hem
      go_wp2_with fail
      refine HST.out.mono ?_
      rintro e w1 ⟨rfl, g1, g2, K', g3, g4, g5, g6⟩
      have HR := hide2 (FIN.out w1 K' g1 g2 g3 g4 g5 g6)
      have HG2 := hide2 g2
      have HG6 := hide2 g6
      clear HST FIN g1 g2 g3 g4 g5 g6
      go_wp2
      go_ret
      obtain ⟨r1, r2, r3, r4, r5, r6⟩ := HR.out
      have r1 := r1.out
      rw [hlast, List.take_length] at r1
      have g2 := HG2.out
      rw [hlast, List.drop_length] at g2
      have r4 := r4.out
      rw [hlast] at r4
      refine ⟨?_, _, _, _, r1, r2, r3.out, r4, g2, r5.out, r6.out, HG6.out⟩
      rw [← hlast]
      rfl
    · have hem : (xs.drop (k + 1)).isEmpty = false := by
        cases hq : xs.drop (k + 1) with
        | nil => rw [hq] at hdl; simp at hdl; omega
        | cons a b => rfl
      rw [hem] at HST FIN
      clear hem
      go_wp2_with fail
      refine HST.out.mono ?_
      rintro e w1 ⟨rfl, g1, g2, K', g3, g4, g5, g6⟩
      have HR := hide2 (FIN.out w1 K' g1 g2 g3 g4 g5 g6)
      have HG2 := hide2 g2
      have HG6 := hide2 g6
      clear HST FIN g1 g2 g3 g4 g5 g6
      go_wp2
      go_roundw
      case rel =>
        obtain ⟨r1, r2, r3, r4, r5, r6⟩ := HR.out
        exact ⟨k + 1, _, _, K', by omega, by go_num, r1, r2, r3, r4, HG2, r5, r6, HG6⟩
      case measure => simp [intOf]; omega
end
end
end Go.Proofs.YtfhcphgjaobnoaaDoor
