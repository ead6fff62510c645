/-
  enough: as many cells as a tower is high.
-/
import Derived.Test.YtopihgdbfhiejaaDoorSa7
set_option linter.unusedVariables false
set_option linter.unusedSimpArgs false
namespace Go.Proofs.YtopihgdbfhiejaaDoor
open Go.RowKit Go.Maps

section
variable {w w' : World} {K B : Nat → Prop} {lb d g gt tc : Nat} {sv : Value} {T : List Bool} {N : List Int} {m : Int} {F : List Nat} {s : Sl} {ob : Nat} {cv : Value} {o : Opm}

set_option maxRecDepth 100000 in
set_option maxHeartbeats 2000000 in
theorem take_full (h : Lm w K lb d g gt tc sv T N m F s) (ho : Ob w B ob lb cv o) (hf : T.count true = T.length) :
    Calls Tryd.prog 60 #[.pointer (some ⟨ob, 0, none⟩)] w fun e w' => e = .returned (.bool false) ∧ ∃ q, w' = w.drewN q := by
  have c0 := ho.om.cells.1
  have l0 := h.lk.cells.1
  have HA := hide2 (Alloc_full h.aw hf)
  clear h ho
  go_enter Tryd.func60, Tryd.ntmps60
  go_wp2_with fail
  refine HA.out.mono ?_
  rintro e w1 ⟨rfl, q, rfl⟩
  go_wp2
  go_ret
  exact ⟨rfl, q, rfl⟩

set_option maxRecDepth 100000 in
set_option maxHeartbeats 2000000 in
/-- slices.Clone. -/
theorem clone_row {v : Value} {l : List Nat} (h : Hr w 0 v l) (hl : l.length ≤ 1000000) :
    Calls Tryd.prog 82 #[v] w fun e w' => ∃ v', e = .returned v' ∧ Hr w' w.heap.size v' l ∧ Below w.heap.size w w' := by
  obtain ⟨i0, hi0, z0, z1, z2⟩ := info_parts infoH
  rcases h.2 with ⟨rfl, h0⟩ | ⟨gg, cap, cur, rfl, hg, hh, hn, hm, hs, ht⟩
  · have e0 : l = [] := List.length_eq_zero_iff.1 h0
    subst e0
    have hnil := Lib.run_eql_slice_nil (P := Tryd.prog) w 47 3 none 0 0 0 0 Tryd.underlying47
    clear h
    go_enter Tryd.func82, Tryd.ntmps82
    go_wp2
    go_ret
    exact ⟨_, rfl, ⟨rfl, .inl ⟨rfl, rfl⟩⟩, Below.refl _ _⟩
  · have hnil := Lib.run_eql_slice_nil (P := Tryd.prog) w 47 3 (some ⟨gg, 0, none⟩) l.length cap 0 0 Tryd.underlying47
    have HOLD : Hid (∀ j u, (l.map nv)[j]? = some u → (w.alloc (.cells #[] 3)).cell? ((⟨gg, 0, none⟩ : Addr).add j) = some u) := hide2 (fun j u hj => by
      have hjl : j < l.length := by have := (List.getElem?_eq_some_iff.1 hj).1; simpa using this
      rw [addr_add, Nat.zero_add, World.cell?_alloc_lt _ _ _ (Array.getElem?_eq_some_iff.1 hh).1, World.ownsRow.cellAt h _ (by omega)]
      exact hj)
    have HEMP : Hid ((w.alloc (.cells #[] 3)).ownsRow w.heap.size 3 1 (.slice (some ⟨w.heap.size, 0, none⟩) 0 0) 0 []) := hide2 ⟨rfl, .inr ⟨w.heap.size, 0, #[], rfl, Nat.le_refl _, heap_alloc_new w _, Nat.le_refl _, Nat.zero_le _, rfl, rfl⟩⟩
    have hglt := (Array.getElem?_eq_some_iff.1 hh).1
    clear h hh hs ht
    go_enter Tryd.func82, Tryd.ntmps82
    go_wp2_with (at_builtin; refine Hid.out ?_)
    refine hide2 ?_
    refine wpList_append_own_at _ rfl _ _ 47 rfl w.heap.size 3 i0 (.int .i64 0) 1 8 Tryd.underlying47 hi0 z0 z1 z2 rfl (by decide) (.slice (some ⟨w.heap.size, 0, none⟩) 0 0) _ _ rfl HEMP.out ⟨gg, 0, none⟩ l.length cap (l.map nv) rfl (by simp) HOLD.out (by intro u hu; obtain ⟨x, _, rfl⟩ := List.mem_map.1 hu; rfl) (by unfold maxLen; omega) (by omega) (by simp) ?_
    intro v' w4 hown4 hgrow4 hat4 hb4
    have HR : Hid (Hr w4 w.heap.size v' l) := hide2 (by
      unfold Hr
      simpa using hown4)
    have HB : Hid (Below w.heap.size w w4) := hide2 (by
      have b1 : Below w.heap.size w (w.alloc (.cells #[] 3)) := (Below.refl _ w).alloc (Nat.le_refl _) _
      have f1 : Fr (fun j => j = w.heap.size) (w.alloc (.cells #[] 3)) w4 := Fr.grown hgrow4 (fun j e => by simp [Value.ownBlock] at e; exact e.symm)
      exact b1.trans (f1.to (fun j hj e => by omega) b1.size))
    obtain ⟨va, vn, vc, ev⟩ : ∃ a n c, v' = Value.slice a n c := by obtain ⟨a, c, e⟩ := HR.out.form; exact ⟨a, _, c, e⟩
    clear hown4 hgrow4 hat4 hb4 HOLD HEMP
    subst ev
    go_frame
    go_wp2
    go_ret
    exact ⟨_, rfl, HR.out, HB.out⟩
end
end Go.Proofs.YtopihgdbfhiejaaDoor
