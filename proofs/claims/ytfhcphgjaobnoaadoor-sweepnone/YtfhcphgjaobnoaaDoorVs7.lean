/-
  Layer 15: an operation: Begin, its steps, Gone. (Printed by gen_vs7.py.)
-/
import Derived.Test.YtfhcphgjaobnoaaDoorVs6
import Derived.Deep.RegionHeld3
set_option linter.unusedVariables false
set_option linter.unusedSimpArgs false
namespace Go.Proofs.YtfhcphgjaobnoaaDoor
open Go.RowKit Go.Maps

def iv (x : Int) : Value := .int .i64 x
/-- A row of numbers that a call has made. -/
def Ir (w : World) (base : Nat) (v : Value) (xs : List Int) : Prop := w.ownsRow base 3 1 v xs.length (xs.map iv)
section
variable {w w' : World} {base B : Nat} {v : Value} {xs : List Int}
theorem Ir.seq (h : Ir w base v xs) : ∃ ao cap, v = .slice ao xs.length cap ∧ Seq 1 ih w ao xs.length cap xs ∧ ∀ b off, ao = some ⟨b, off, none⟩ → v.ownBlock = some b ∧ off = 0 := by
  rcases h.2 with ⟨rfl, h0⟩ | ⟨g, cap, cur, rfl, hg, hh, hn, hm, hs, ht⟩
  · exact ⟨none, 0, by rw [h0], ⟨by simp, by omega, Nat.zero_le _, fun h => absurd h (by omega)⟩, fun b off e => by cases e⟩
  · refine ⟨_, cap, rfl, ⟨by simp, hn, hm, fun _ => ⟨g, 0, rfl, (Array.getElem?_eq_some_iff.1 hh).1, fun i x hi j u hj => ?_⟩⟩, fun b off e => by injection e with e; injection e with e1 e2 e3; subst e1 e2; exact ⟨rfl, rfl⟩⟩
    have hj0 : j = 0 := by
      rcases j with _ | j
      · rfl
      · simp [ih] at hj
    subst hj0
    simp [ih] at hj
    subst hj
    rw [Go.Joins.cell_of_block hh]
    have hi2 : i < xs.length := (List.getElem?_eq_some_iff.1 hi).1
    rw [← Array.getElem?_toList]
    have : (cur.toList.take (xs.length * 1))[i]? = some (iv xs[i]) := by rw [ht]; simp [hi2]
    rw [List.getElem?_take, if_pos (by omega)] at this
    have e : x = xs[i] := by
      rw [List.getElem?_eq_getElem hi2] at hi
      simpa using hi.symm
    rw [e]
    simpa [iv] using this
set_option maxRecDepth 100000 in
set_option maxHeartbeats 2000000 in
/-- slices.Clone. -/
theorem iclone_any {ao : Option Addr} {len cap : Nat} (hs : Seq 1 ih w ao len cap xs) (hl : 8 * len ≤ 140737488351232) :
    Calls Tryd.prog 68 #[.slice ao len cap] w fun e w' => ∃ v', e = .returned v' ∧ Ir w' w.heap.size v' xs ∧ Below w.heap.size w w' := by
  obtain ⟨i0, hi0, z0, z1, z2⟩ := info_parts infoH
  have hx := hs.1
  rcases ao with _ | ad
  · have e0 : len = 0 := by
      rcases Nat.eq_zero_or_pos len with q | q
      · exact q
      · obtain ⟨b, off, e, _⟩ := hs.2.2.2 q; cases e
    subst e0
    have e1 : xs = [] := List.length_eq_zero_iff.1 hx
    subst e1
    have hnil := Lib.run_eql_slice_nil (P := Tryd.prog) w 29 3 none 0 cap 0 0 Tryd.underlying29
    clear hs
    go_enter Tryd.func68, Tryd.ntmps68
    go_wp2
    go_ret
    exact ⟨_, rfl, ⟨rfl, .inl ⟨rfl, rfl⟩⟩, Below.refl _ _⟩
  · have hnil := Lib.run_eql_slice_nil (P := Tryd.prog) w 29 3 (some ad) len cap 0 0 Tryd.underlying29
    have HOLD : Hid (∀ j u, (xs.map iv)[j]? = some u → (w.alloc (.cells #[] 3)).cell? (ad.add j) = some u) := hide2 (fun j u hj => by
      have hjl : j < xs.length := by have := (List.getElem?_eq_some_iff.1 hj).1; simpa using this
      obtain ⟨b, off, e, hbl, hc⟩ := hs.2.2.2 (by omega)
      injection e with e
      subst e
      rw [addr_plus, World.cell?_alloc_lt _ _ _ hbl]
      have := hc j xs[j] (List.getElem?_eq_getElem hjl) 0 _ rfl
      rw [List.getElem?_map, List.getElem?_eq_getElem hjl] at hj
      simp at hj
      subst hj
      simpa [iv] using this)
    have HEMP : Hid ((w.alloc (.cells #[] 3)).ownsRow w.heap.size 3 1 (.slice (some ⟨w.heap.size, 0, none⟩) 0 0) 0 []) := hide2 ⟨rfl, .inr ⟨w.heap.size, 0, #[], rfl, Nat.le_refl _, heap_alloc_new w _, Nat.le_refl _, Nat.zero_le _, rfl, rfl⟩⟩
    clear hs
    go_enter Tryd.func68, Tryd.ntmps68
    go_wp2_with (at_builtin; refine Hid.out ?_)
    refine hide2 ?_
    refine wpList_append_own_at _ rfl _ _ 29 rfl w.heap.size 3 i0 (.int .i64 0) 1 8 Tryd.underlying29 hi0 z0 z1 z2 rfl (by decide) (.slice (some ⟨w.heap.size, 0, none⟩) 0 0) _ _ rfl HEMP.out ad len cap (xs.map iv) rfl (by simp; omega) HOLD.out (by intro u hu; obtain ⟨x, _, rfl⟩ := List.mem_map.1 hu; rfl) (by unfold maxLen; omega) (by omega) (by simp) ?_
    intro v' w4 hown4 hgrow4 hat4 hb4
    have HR : Hid (Ir w4 w.heap.size v' xs) := hide2 (by
      unfold Ir
      rw [hx]
      simpa using hown4)
    have HB : Hid (Below w.heap.size w w4) := hide2 (by
      have b1 : Below w.heap.size w (w.alloc (.cells #[] 3)) := (Below.refl _ w).alloc (Nat.le_refl _) _
      have f1 : Fr (fun j => j = w.heap.size) (w.alloc (.cells #[] 3)) w4 := Fr.grown hgrow4 (fun j e => by simp [Value.ownBlock] at e; exact e.symm)
      exact b1.trans (f1.to (fun j hj e => by omega) b1.size))
    obtain ⟨va, vn, vc, ev⟩ : ∃ a n c, v' = Value.slice a n c := by obtain ⟨a, c, e, _⟩ := HR.out.seq; exact ⟨a, _, c, e⟩
    clear hown4 hgrow4 hat4 hb4 HOLD HEMP
    subst ev
    go_frame
    go_wp2
    go_ret
    exact ⟨_, rfl, HR.out, HB.out⟩
end

/-- An operation of a sweep: what is left, how many went, is it done; Q are its blocks. -/
structure Opm (w : World) (B : Nat) (Q : Nat → Prop) (ob : Nat) (po : Option Addr) (left : List Int) (mark : Int) (g : Nat) (dn : Bool) : Prop where
  ex : ∃ lb s3 mk ao cap, w.heap[ob]? = some (.cells #[.pointer po, .func (.func 69) #[] #[.pointer (some ⟨lb, 0, none⟩), .pointer (some ⟨s3, 0, none⟩), .pointer (some ⟨mk, 0, none⟩)], .int .i64 (g : Int), .bool dn] 82 (0, 0)) ∧
    w.heap[lb]? = some (.cells #[.slice ao left.length cap] 29 (0, 0)) ∧ w.heap[s3]? = some (.cells #[.pointer po] 30 (0, 0)) ∧ w.heap[mk]? = some (.cells #[.int .i64 mark] 2 (0, 0)) ∧
    Seq 1 ih w ao left.length cap left ∧ Q ob ∧ Q lb ∧ Q s3 ∧ Q mk ∧ (∀ b off, ao = some ⟨b, off, none⟩ → Q b ∧ b ≠ ob ∧ b ≠ lb) ∧ (ao = none → left = [] ∧ cap = 0)
  ql : ∀ j, Q j → B ≤ j ∧ j < w.heap.size
section
variable {w w' : World} {B ob g : Nat} {Q : Nat → Prop} {po : Option Addr} {left : List Int} {mark : Int} {dn : Bool}
theorem Opm.keep {G : Nat → Prop} (h : Opm w B Q ob po left mark g dn) (hF : Fr G w w') (hG : ∀ j, Q j → ¬ G j) : Opm w' B Q ob po left mark g dn := by
  obtain ⟨⟨lb, s3, mk, ao, cap, h1, h2, h3, h4, h5, q1, q2, q3, q4, q5, q6⟩, ql⟩ := h
  have hs := hF.size
  refine ⟨⟨lb, s3, mk, ao, cap, (hF.block _ (ql _ q1).2 (hG _ q1)).trans h1, (hF.block _ (ql _ q2).2 (hG _ q2)).trans h2, (hF.block _ (ql _ q3).2 (hG _ q3)).trans h3, (hF.block _ (ql _ q4).2 (hG _ q4)).trans h4, ⟨h5.1, h5.2.1, h5.2.2.1, fun q => ?_⟩, q1, q2, q3, q4, q5, q6⟩, fun j hj => ⟨(ql j hj).1, by have := (ql j hj).2; omega⟩⟩
  obtain ⟨b, off, e, hbl, hc⟩ := h5.2.2.2 q
  exact ⟨b, off, e, by omega, fun i x hi j u hu => (hF.cell (p := ⟨b, off + i * 1 + j, none⟩) hbl (hG b (q5 b off e).1)).trans (hc i x hi j u hu)⟩
theorem Opm.below (h : Opm w B Q ob po left mark g dn) (hb : Below w.heap.size w w') : Opm w' B Q ob po left mark g dn := h.keep (G := fun _ => False) (Fr.below hb) (fun _ _ e => e)
set_option maxRecDepth 100000 in
set_option maxHeartbeats 2000000 in
theorem begin_any {ao : Option Addr} {len cap : Nat} {xs : List Int} (hs : Seq 1 ih w ao len cap xs) (hl : 8 * len ≤ 140737488351232) (mark : Int) (po : Option Addr) :
    Calls Tryd.prog 17 #[.pointer po, .slice ao len cap, .int .i64 mark] w fun e w' => ∃ ob Q, e = .returned (.pointer (some ⟨ob, 0, none⟩)) ∧ Opm w' w.heap.size Q ob po xs mark 0 false ∧ Below w.heap.size w w' := by
  have HNB : Hid (Calls Tryd.prog 42 #[.pointer po, .slice ao len cap, .int .i64 mark] w fun e w' => ∃ lb s3 mk v, e = .returned (.func (.func 69) #[] #[.pointer (some ⟨lb, 0, none⟩), .pointer (some ⟨s3, 0, none⟩), .pointer (some ⟨mk, 0, none⟩)]) ∧
      w'.heap[lb]? = some (.cells #[v] 29 (0, 0)) ∧ w'.heap[s3]? = some (.cells #[.pointer po] 30 (0, 0)) ∧ w'.heap[mk]? = some (.cells #[.int .i64 mark] 2 (0, 0)) ∧ Ir w' w.heap.size v xs ∧ w.heap.size ≤ lb ∧ w.heap.size ≤ s3 ∧ w.heap.size ≤ mk ∧ v.ownBlock ≠ some lb ∧ Below w.heap.size w w') := hide2 (by
    obtain ⟨wb, hwb⟩ : ∃ q, q = (w.alloc (.cells #[.pointer po] 30)).alloc (.cells #[.int .i64 mark] 2) := ⟨_, rfl⟩
    have hB : Below w.heap.size w wb := by rw [hwb]; exact ((Below.refl _ w).alloc (Nat.le_refl _) _).alloc (by simp) _
    have hsz : wb.heap.size = w.heap.size + 2 := by rw [hwb]; simp
    have b3 : wb.heap[w.heap.size]? = some (.cells #[.pointer po] 30 (0, 0)) := by
      rw [hwb, Below.heap_alloc _ _ _ (by simp)]; exact heap_alloc_new w _
    have bm : wb.heap[w.heap.size + 1]? = some (.cells #[.int .i64 mark] 2 (0, 0)) := by
      have := heap_alloc_new (w.alloc (.cells #[.pointer po] 30)) (.cells #[.int .i64 mark] 2)
      rw [hwb]; simpa using this
    have HC := hide2 (iclone_any (hs.keep hB) hl)
    have HB := hide2 hB
    have H3 := hide2 b3
    have HM := hide2 bm
    clear hs hB b3 bm
    go_enter Tryd.func42, Tryd.ntmps42
    go_wp2_with fail
    rw [← hwb]
    refine HC.out.mono ?_
    rintro e w1 ⟨v, rfl, hI, hb1⟩
    have hs1 := hb1.size
    obtain ⟨wf, hwf⟩ : ∃ q, q = w1.alloc (.cells #[v] 29) := ⟨_, rfl⟩
    have bl : wf.heap[w1.heap.size]? = some (.cells #[v] 29 (0, 0)) := by rw [hwf]; exact heap_alloc_new w1 _
    have hbf : Below w1.heap.size w1 wf := by rw [hwf]; exact (Below.refl _ w1).alloc (Nat.le_refl _) _
    have e3 := (hbf.block w.heap.size (by omega)).trans ((hb1.block _ (by omega)).trans H3.out)
    have em := (hbf.block (w.heap.size + 1) (by omega)).trans ((hb1.block _ (by omega)).trans HM.out)
    have hIf : Ir wf wb.heap.size v xs := hrow_fr hI (Fr.below (F := fun _ => False) hbf) (fun _ _ => id)
    have hI2 : Ir wf w.heap.size v xs := by
      refine ⟨hIf.1, ?_⟩
      rcases hIf.2 with q | ⟨g, cap, cur, q1, q2, q3⟩
      · exact .inl q
      · exact .inr ⟨g, cap, cur, q1, by omega, q3⟩
    have hvn : v.ownBlock ≠ some w1.heap.size := fun e => by have := (World.ownsRow.lt hI _ e).2; omega
    have HBA : Hid (Below w.heap.size w wf) := hide2 ((HB.out.trans ⟨hb1.os, hb1.tape, hb1.output, hb1.size, fun j hj => hb1.block j (by omega)⟩).trans ⟨hbf.os, hbf.tape, hbf.output, hbf.size, fun j hj => hbf.block j (by omega)⟩)
    have BL := hide2 bl
    have E3 := hide2 e3
    have EM := hide2 em
    have HI2 := hide2 hI2
    have HVN := hide2 hvn
    obtain ⟨va, vn, vc, ev⟩ : ∃ a n c, v = Value.slice a n c := by obtain ⟨a, c, e, _⟩ := hI.seq; exact ⟨a, _, c, e⟩
    clear HC hI hb1 bl hbf e3 em hIf hI2 hvn hwb
    subst ev
    go_wp2
    try rw [← hwf]
    go_ret
    exact ⟨_, _, _, _, rfl, BL.out, E3.out, EM.out, HI2.out, by omega, by omega, by omega, HVN.out, HBA.out⟩)
  clear hs
  go_enter Tryd.func17, Tryd.ntmps17
  go_wp2_with fail
  refine HNB.out.mono ?_
  rintro e w1 ⟨lb, s3, mk, v, rfl, b1, b2, b3, hI, g1, g2, g3, hvn, hb1⟩
  have hs1 := hb1.size
  obtain ⟨wf, hwf⟩ : ∃ q, q = w1.alloc (.cells #[.pointer po, .func (.func 69) #[] #[.pointer (some ⟨lb, 0, none⟩), .pointer (some ⟨s3, 0, none⟩), .pointer (some ⟨mk, 0, none⟩)], .int .i64 0, .bool false] 82) := ⟨_, rfl⟩
  have bo : wf.heap[w1.heap.size]? = some (.cells #[.pointer po, .func (.func 69) #[] #[.pointer (some ⟨lb, 0, none⟩), .pointer (some ⟨s3, 0, none⟩), .pointer (some ⟨mk, 0, none⟩)], .int .i64 0, .bool false] 82 (0, 0)) := by rw [hwf]; exact heap_alloc_new w1 _
  have hbf : Below w1.heap.size w1 wf := by rw [hwf]; exact (Below.refl _ w1).alloc (Nat.le_refl _) _
  have hsf : wf.heap.size = w1.heap.size + 1 := by rw [hwf]; simp
  have hIf : Ir wf w.heap.size v xs := hrow_fr hI (Fr.below (F := fun _ => False) hbf) (fun _ _ => id)
  have l1 := (Array.getElem?_eq_some_iff.1 b1).1
  have l2 := (Array.getElem?_eq_some_iff.1 b2).1
  have l3 := (Array.getElem?_eq_some_iff.1 b3).1
  obtain ⟨a9, c9, ev, hsq, hown⟩ := hIf.seq
  have hO : Opm wf w.heap.size (fun j => j = w1.heap.size ∨ j = lb ∨ j = s3 ∨ j = mk ∨ v.ownBlock = some j) w1.heap.size po xs mark 0 false := by
    refine ⟨⟨lb, s3, mk, a9, c9, bo, by rw [← ev]; exact (hbf.block _ l1).trans b1, (hbf.block _ l2).trans b2, (hbf.block _ l3).trans b3, hsq, .inl rfl, .inr (.inl rfl), .inr (.inr (.inl rfl)), .inr (.inr (.inr (.inl rfl))), fun b off e => ⟨.inr (.inr (.inr (.inr (hown b off e).1))), fun q => ?_, fun q => ?_⟩, fun e => ?_⟩, fun j hj => ?_⟩
    · have := (World.ownsRow.lt hI b (hown b off e).1).2
      omega
    · exact hvn (by rw [← q]; exact (hown b off e).1)
    · rcases hIf.2 with ⟨q, q0⟩ | ⟨g, cap, cur, q1, _⟩
      · rw [ev] at q
        injection q with q1 q2 q3
        exact ⟨List.length_eq_zero_iff.1 q0, q3⟩
      · rw [ev, e] at q1
        injection q1 with q1
        cases q1
    · rcases hj with e | e | e | e | e
      · omega
      · omega
      · omega
      · omega
      · have := World.ownsRow.lt hIf j e
        exact this
  have HO := hide2 hO
  have HBF : Hid (Below w.heap.size w wf) := hide2 (hb1.trans ⟨hbf.os, hbf.tape, hbf.output, hbf.size, fun j hj => hbf.block j (by omega)⟩)
  clear HNB b1 b2 b3 hI g1 g2 g3 hvn hb1 bo hbf hIf hsq hown hO ev l1 l2 l3
  go_wp2
  try rw [← hwf]
  go_ret
  exact ⟨_, _, rfl, HO.out, HBF.out⟩

theorem oisNone_nil : Calls Tryd.prog 43 #[.pointer none] w fun e w' => e = .returned (.bool true) ∧ w' = w := by
  go_enter Tryd.func43, Tryd.ntmps43
  go_wp2
  go_ret
  exact ⟨rfl, rfl⟩
theorem oisNone_any (h : Opm w B Q ob po left mark g dn) : Calls Tryd.prog 43 #[.pointer (some ⟨ob, 0, none⟩)] w fun e w' => e = .returned (.bool (po.isNone)) ∧ w' = w := by
  obtain ⟨⟨lb, s3, mk, ao, cap, h1, -⟩, -⟩ := h
  have c0 : w.cell? ⟨ob, 0, none⟩ = some (.pointer po) := by rw [Go.Joins.cell_of_block h1]; rfl
  have hl := (Array.getElem?_eq_some_iff.1 h1).1
  clear h1
  rcases po with _ | p
  · go_enter Tryd.func43, Tryd.ntmps43
    go_wp2
    go_ret
    exact ⟨rfl, rfl⟩
  · go_enter Tryd.func43, Tryd.ntmps43
    go_wp2
    go_ret
    exact ⟨rfl, rfl⟩
theorem ostep_nil : Calls Tryd.prog 20 #[.pointer none] w fun e w' => e = .returned (.bool true) ∧ w' = w := by
  have HI := hide2 (oisNone_nil (w := w))
  go_enter Tryd.func20, Tryd.ntmps20
  go_wp2_with fail
  refine HI.out.mono ?_
  rintro e w1 ⟨rfl, q⟩
  subst q
  go_wp2
  go_ret
  exact ⟨rfl, rfl⟩
theorem ostep_none (h : Opm w B Q ob none left mark g dn) : Calls Tryd.prog 20 #[.pointer (some ⟨ob, 0, none⟩)] w fun e w' => e = .returned (.bool true) ∧ w' = w := by
  have HI := hide2 (oisNone_any h)
  clear h
  go_enter Tryd.func20, Tryd.ntmps20
  go_wp2_with fail
  refine HI.out.mono ?_
  rintro e w1 ⟨rfl, q⟩
  subst q
  go_wp2
  go_ret
  exact ⟨rfl, rfl⟩
theorem ostep_done (h : Opm w B Q ob po left mark g true) : Calls Tryd.prog 20 #[.pointer (some ⟨ob, 0, none⟩)] w fun e w' => e = .returned (.bool true) ∧ w' = w := by
  have HI := hide2 (oisNone_any h)
  obtain ⟨⟨lb, s3, mk, ao, cap, h1, -⟩, -⟩ := h
  have c3 : w.cell? ⟨ob, 3, none⟩ = some (.bool true) := by rw [Go.Joins.cell_of_block h1]; rfl
  have hl := (Array.getElem?_eq_some_iff.1 h1).1
  clear h1
  rcases po with _ | p
  · go_enter Tryd.func20, Tryd.ntmps20
    go_wp2_with fail
    refine HI.out.mono ?_
    rintro e w1 ⟨rfl, q⟩
    subst q
    go_wp2
    go_ret
    exact ⟨rfl, rfl⟩
  · go_enter Tryd.func20, Tryd.ntmps20
    go_wp2_with fail
    refine HI.out.mono ?_
    rintro e w1 ⟨rfl, q⟩
    subst q
    go_wp2
    go_ret
    exact ⟨rfl, rfl⟩
theorem gone_nil : Calls Tryd.prog 18 #[.pointer none] w fun e w' => e = .returned (.tuple #[.int .i64 0, .int .i64 1]) ∧ w' = w := by
  have HI := hide2 (oisNone_nil (w := w))
  go_enter Tryd.func18, Tryd.ntmps18
  go_wp2_with fail
  refine HI.out.mono ?_
  rintro e w1 ⟨rfl, q⟩
  subst q
  go_wp2
  go_ret2
  exact ⟨rfl, rfl⟩
theorem gone_none (h : Opm w B Q ob none left mark g dn) : Calls Tryd.prog 18 #[.pointer (some ⟨ob, 0, none⟩)] w fun e w' => e = .returned (.tuple #[.int .i64 0, .int .i64 1]) ∧ w' = w := by
  have HI := hide2 (oisNone_any h)
  clear h
  go_enter Tryd.func18, Tryd.ntmps18
  go_wp2_with fail
  refine HI.out.mono ?_
  rintro e w1 ⟨rfl, q⟩
  subst q
  go_wp2
  go_ret2
  exact ⟨rfl, rfl⟩
theorem gone_early {p : Addr} (h : Opm w B Q ob (some p) left mark g false) : Calls Tryd.prog 18 #[.pointer (some ⟨ob, 0, none⟩)] w fun e w' => e = .returned (.tuple #[.int .i64 0, .int .i64 2]) ∧ w' = w := by
  have HI := hide2 (oisNone_any h)
  obtain ⟨⟨lb, s3, mk, ao, cap, h1, -⟩, -⟩ := h
  have c3 : w.cell? ⟨ob, 3, none⟩ = some (.bool false) := by rw [Go.Joins.cell_of_block h1]; rfl
  have hl := (Array.getElem?_eq_some_iff.1 h1).1
  clear h1
  go_enter Tryd.func18, Tryd.ntmps18
  go_wp2_with fail
  refine HI.out.mono ?_
  rintro e w1 ⟨rfl, q⟩
  subst q
  go_wp2
  go_ret2
  exact ⟨rfl, rfl⟩
theorem gone_late {p : Addr} (h : Opm w B Q ob (some p) left mark g true) : Calls Tryd.prog 18 #[.pointer (some ⟨ob, 0, none⟩)] w fun e w' => e = .returned (.tuple #[.int .i64 (g : Int), .int .i64 0]) ∧ w' = w := by
  have HI := hide2 (oisNone_any h)
  obtain ⟨⟨lb, s3, mk, ao, cap, h1, -⟩, -⟩ := h
  have c3 : w.cell? ⟨ob, 3, none⟩ = some (.bool true) := by rw [Go.Joins.cell_of_block h1]; rfl
  have c2 : w.cell? ⟨ob, 2, none⟩ = some (.int .i64 (g : Int)) := by rw [Go.Joins.cell_of_block h1]; rfl
  have hl := (Array.getElem?_eq_some_iff.1 h1).1
  clear h1
  go_enter Tryd.func18, Tryd.ntmps18
  go_wp2_with fail
  refine HI.out.mono ?_
  rintro e w1 ⟨rfl, q⟩
  subst q
  go_wp2
  go_ret2
  exact ⟨rfl, rfl⟩
end
end Go.Proofs.YtfhcphgjaobnoaaDoor
