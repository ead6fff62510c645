/-
  look: an operation goes on by one key.
-/
import Derived.Test.YtbpihkojmbfccaaDoorHa3
set_option linter.unusedVariables false
set_option linter.unusedSimpArgs false
namespace Go.Proofs.YtbpihkojmbfccaaDoor
open Go.RowKit Go.Maps

section
variable {w w' : World} {K : Nat → Prop} {tb d g hb hc mb : Nat} {sv : Value} {D : DataW Value} {T : List Bool} {N : List Int} {m : Int} {F : List Nat} {s : Tb} {ob : Nat} {o : Opm}

theorem zero_entry (u : World) : (zeroValue 76).run Tryd.prog u = .ok (.agg #[.string .empty, .int .i64 0]) u := by kernel_rfl
theorem Hm.lookup (h : Hm w K tb d g hb hc mb sv D T N m F s) {e : En} (he : e ∈ s.all) (hcl : e.c ≤ 65536) :
    (Instr.lookup 70 (.map (some mb)) (.int .i64 (e.c : Int)) false).run Tryd.prog w = .ok (.agg #[.string e.k, .int .i64 e.r]) w := by
  obtain ⟨v, ps, hrun, hR⟩ := h.mp.lookup cellKeyed Tryd.underlying70 (zero_entry w) (zd := .held (.agg #[.string .empty, .int .i64 0])) (zp := []) rfl (key_int e.c hcl)
  rw [hrun]
  rw [h.md.get e he] at hR
  simp only [RVh, Option.some.injEq, Prod.mk.injEq] at hR
  cases hR.1
  rfl

theorem Om.zero {tv : Option Addr} (h : Om w ob (.pointer tv) o) (hT : Tab w) : ob ≠ 0 := by
  rintro rfl
  have := hT.2 0 (by decide)
  rw [h.cells.1] at this
  cases this

theorem toList_inj {a b : ByteArray} (h : a.toList = b.toList) : a = b := by
  rw [ByteArray.toList_eq, ByteArray.toList_eq] at h
  cases a; cases b
  simp at h
  rw [h]

/-- Has an operation a cell that is spare? -/
def Opm.spare (o : Opm) (s : Tb) : Bool :=
  match o.cell with
  | none => false
  | some c => s.sp.contains c
theorem spare_cell (o : Opm) (s : Tb) : (s.sp.map fun c : Nat => (c : Int)).contains (cellI o.cell) = o.spare s := by
  unfold Opm.spare
  cases h : o.cell with
  | none =>
    show (s.sp.map fun c : Nat => (c : Int)).contains (-1) = false
    rw [Bool.eq_false_iff]
    intro e
    rw [List.contains_iff_mem] at e
    obtain ⟨x, _, e2⟩ := List.mem_map.1 e
    omega
  | some c =>
    show (s.sp.map fun c : Nat => (c : Int)).contains (c : Int) = s.sp.contains c
    rw [Bool.eq_iff_iff, List.contains_iff_mem, List.contains_iff_mem]
    constructor
    · intro e
      obtain ⟨x, hx, e2⟩ := List.mem_map.1 e
      have : x = c := by omega
      subst this; exact hx
    · exact fun e => List.mem_map.2 ⟨c, e, rfl⟩

abbrev tp (tb : Nat) : Value := .pointer (some ⟨tb, 0, none⟩)

set_option maxRecDepth 100000 in
set_option maxHeartbeats 2000000 in
/-- look, at the chain's end. -/
theorem look_end (h : Hm w K tb d g hb hc mb sv D T N m F s) (ho : Om w ob (tp tb) o) (hob : ¬ K ob) (hp : T.getD o.pl false = true) (hv : N.getD o.pl 0 = 0) (hm : 0 ≤ m ∧ m < 4611686018427387904) :
    Calls Tryd.prog 35 #[.pointer (some ⟨ob, 0, none⟩)] w fun e w' => e = .returned (.tuple #[]) ∧ Hm w' K tb d g hb hc mb sv D T N (m + 1) F s ∧ Om w' ob (tp tb) o.missed ∧ Fr (fun j => K j ∨ j = ob) w w' := by
  obtain ⟨c0, c1, c2, c3, c4, c5, c6, c7, c8, c9⟩ := ho.cells
  have hb1 := h.behind hp (by omega) hm
  rw [hv] at hb1
  have HB := hide2 hb1
  have H := hide2 h
  have HO := hide2 ho
  have hlt := ho.lt
  have ht := h.tk.lt
  clear hb1 h ho c1 c2 c3 c4 c5 c6 c8 c9
  go_enter Tryd.func35, Tryd.ntmps35
  go_wp2_with fail
  refine HB.out.mono ?_
  rintro e w1 ⟨rfl, h1, hF1⟩
  have hF1K : Fr K w w1 := hF1.mono (fun j _ e => H.out.kk j (by rcases e with e | e <;> simp [e]))
  have o1 := HO.out.fr hF1K hob
  have HM := hide2 (isMissing_any o1)
  have H1 := hide2 h1
  clear HB h1 hF1 o1 c0 c7
  go_wp2_with fail
  refine HM.out.mono ?_
  rintro e w2 ⟨rfl, o2, hF2⟩
  clear HM
  go_wp2
  refine bodyPost_ret (results_none rfl _ _ _) rfl ?_
  exact ⟨rfl, H1.out.keep hF2 (fun j hj e => hob (e ▸ hj)) (fun e => HO.out.zero H.out.tab e.symm), o2, (hF1K.mono (G := fun j => K j ∨ j = ob) (fun _ _ e => .inl e)).trans hF2 (fun j e => .inl (.inr e))⟩

set_option maxRecDepth 100000 in
set_option maxHeartbeats 2000000 in
/-- look, at another key. -/
theorem look_pass (h : Hm w K tb d g hb hc mb sv D T N m F s) (ho : Om w ob (tp tb) o) (hob : ¬ K ob) (hp : T.getD o.pl false = true) {e : En} (he : e ∈ s.all) (hcl : e.c ≤ 65535) (hv : N.getD o.pl 0 = (e.c : Int) + 1) (hk : e.k ≠ o.k) (hm : 0 ≤ m ∧ m < 4611686018427387904) :
    Calls Tryd.prog 35 #[.pointer (some ⟨ob, 0, none⟩)] w fun e' w' => e' = .returned (.tuple #[]) ∧ Hm w' K tb d g hb hc mb sv D T N (m + 1) F s ∧ Om w' ob (tp tb) { o with pl := e.c } ∧ Fr (fun j => K j ∨ j = ob) w w' := by
  obtain ⟨c0, c1, c2, c3, c4, c5, c6, c7, c8, c9⟩ := ho.cells
  have hb1 := h.behind hp (by omega) hm
  rw [hv, show (e.c : Int) + 1 - 1 = (e.c : Int) by omega, decide_eq_true (show (e.c : Int) + 1 ≠ 0 by omega)] at hb1
  have HB := hide2 hb1
  have H := hide2 h
  have HO := hide2 ho
  have hlt := ho.lt
  have ht := h.tk.lt
  clear hb1 h ho c1 c3 c4 c5 c6 c8 c9
  go_enter Tryd.func35, Tryd.ntmps35
  go_wp2_with fail
  refine HB.out.mono ?_
  rintro e' w1 ⟨rfl, h1, hF1⟩
  have hF1K : Fr K w w1 := hF1.mono (fun j _ e => H.out.kk j (by rcases e with e | e <;> simp [e]))
  have o1 := HO.out.fr hF1K hob
  have hlk := h1.lookup he (by omega)
  obtain ⟨d0, d1, d2, d3⟩ := h1.tk.cells
  have hlt1 := o1.lt
  have ht1 := h1.tk.lt
  obtain ⟨w2, hw2⟩ : ∃ x, x = w1.alloc (.cells #[.string e.k, .int .i64 e.r] 76) := ⟨_, rfl⟩
  have hF2 : Fr (fun _ => False) w1 w2 := by rw [hw2]; exact (Fr.refl _ w1).alloc _
  have o2 := o1.fr hF2 id
  have h2 := h1.keep hF2 (fun _ _ e => e) (fun e => e)
  obtain ⟨b0, b1, b2, b3, b4, b5, b6, b7, b8, b9⟩ := o2.cells
  have f7 := o2.free 7
  have H2 := hide2 h2
  have O2 := hide2 o2
  have hn : w1.heap[w1.heap.size]? = none := by simp
  have z1 := heap_alloc_new w1 (.cells #[.string .empty, .int .i64 0] 76)
  have z2 : (w1.alloc (.cells #[.string .empty, .int .i64 0] 76)).cell? ⟨w1.heap.size, 0, none⟩ = some (.string .empty) := by rw [Go.Joins.cell_of_block z1]; rfl
  have z3 : (w1.alloc (.cells #[.string .empty, .int .i64 0] 76)).cell? ⟨w1.heap.size, 1, none⟩ = some (.int .i64 0) := by rw [Go.Joins.cell_of_block z1]; rfl
  have z4 := Go.Joins.unfrozen_of_block z1 0
  have z5 := Go.Joins.unfrozen_of_block z1 1
  have m1 : w2.heap[w1.heap.size]? = some (.cells #[.string e.k, .int .i64 e.r] 76 (0, 0)) := by rw [hw2]; exact heap_alloc_new w1 _
  have m2 : w2.cell? ⟨w1.heap.size, 0, none⟩ = some (.string e.k) := by rw [Go.Joins.cell_of_block m1]; rfl
  have m3 : w2.cell? ⟨w1.heap.size, 1, none⟩ = some (.int .i64 e.r) := by rw [Go.Joins.cell_of_block m1]; rfl
  have M1 := hide2 m1
  clear HB h1 hF1 o1 c0 c7 c2 h2 o2 b0 b1 b3 b4 b5 b6 b9 hn z1 m1
  go_wp2
  rw [← hw2]
  have HW2 := hide2 hw2
  clear hw2 z2 z3 z4 z5 hlk d0 d1 d2 d3
  have hk2 : (e.k.toList == o.k.toList) = false := by
    simp only [beq_eq_false_iff_ne, ne_eq]
    exact fun q => hk (toList_inj q)
  go_quiet (fail)
  go_wp2
  refine bodyPost_ret (results_none rfl _ _ _) rfl ?_
  have hF3 : Fr (fun j => j = ob) w2 ((w2.drewN nq).setCell ⟨ob, 7, none⟩ (.int .i64 (e.c : Int))) := Fr.setCell (p := ⟨ob, 7, none⟩) ((Fr.refl (fun j => j = ob) w2).drewN nq) (.inl rfl) _
  have o3 : Om (w2.drewN nq) ob (tp tb) o := O2.out.same rfl
  exact ⟨rfl, H2.out.keep hF3 (fun j hj e => hob (e ▸ hj)) (fun e => HO.out.zero H.out.tab e.symm), o3.setAt e.c, ((hF1K.mono (G := fun j => K j ∨ j = ob) (fun _ _ e => .inl e)).trans hF2 (fun j e => e.elim)).trans hF3 (fun j e => .inl (.inr e))⟩
set_option maxRecDepth 100000 in
set_option maxHeartbeats 2000000 in
/-- look, at the key. -/
theorem look_found (h : Hm w K tb d g hb hc mb sv D T N m F s) (ho : Om w ob (tp tb) o) (hob : ¬ K ob) (hp : T.getD o.pl false = true) {e : En} (he : e ∈ s.all) (hcl : e.c ≤ 65535) (hv : N.getD o.pl 0 = (e.c : Int) + 1) (hk : e.k = o.k) (hm : 0 ≤ m ∧ m < 4611686018427387904) :
    Calls Tryd.prog 35 #[.pointer (some ⟨ob, 0, none⟩)] w fun e' w' => e' = .returned (.tuple #[]) ∧ Hm w' K tb d g hb hc mb sv D T N (m + 1) F s ∧ Om w' ob (tp tb) { o.ans e.r true 0 with st := if o.spare s = true then 2 else 3 } ∧ Fr (fun j => K j ∨ j = ob) w w' := by
  obtain ⟨c0, c1, c2, c3, c4, c5, c6, c7, c8, c9⟩ := ho.cells
  have HK := hide2 hk
  clear hk
  have hb1 := h.behind hp (by omega) hm
  rw [hv, show (e.c : Int) + 1 - 1 = (e.c : Int) by omega, decide_eq_true (show (e.c : Int) + 1 ≠ 0 by omega)] at hb1
  have HB := hide2 hb1
  have H := hide2 h
  have HO := hide2 ho
  have hlt := ho.lt
  have ht := h.tk.lt
  clear hb1 h ho c1 c3 c4 c5 c6 c8 c9
  go_enter Tryd.func35, Tryd.ntmps35
  go_wp2_with fail
  refine HB.out.mono ?_
  rintro e' w1 ⟨rfl, h1, hF1⟩
  have hF1K : Fr K w w1 := hF1.mono (fun j _ e => H.out.kk j (by rcases e with e | e <;> simp [e]))
  have o1 := HO.out.fr hF1K hob
  have hlk := h1.lookup he (by omega)
  obtain ⟨d0, d1, d2, d3⟩ := h1.tk.cells
  have hlt1 := o1.lt
  have ht1 := h1.tk.lt
  obtain ⟨w2, hw2⟩ : ∃ x, x = w1.alloc (.cells #[.string e.k, .int .i64 e.r] 76) := ⟨_, rfl⟩
  have hF2 : Fr (fun _ => False) w1 w2 := by rw [hw2]; exact (Fr.refl _ w1).alloc _
  have o2 := o1.fr hF2 id
  have h2 := h1.keep hF2 (fun _ _ e => e) (fun e => e)
  obtain ⟨b0, b1, b2, b3, b4, b5, b6, b7, b8, b9⟩ := o2.cells
  have f7 := o2.free 7
  have H2 := hide2 h2
  have O2 := hide2 o2
  have hn : w1.heap[w1.heap.size]? = none := by simp
  have z1 := heap_alloc_new w1 (.cells #[.string .empty, .int .i64 0] 76)
  have z2 : (w1.alloc (.cells #[.string .empty, .int .i64 0] 76)).cell? ⟨w1.heap.size, 0, none⟩ = some (.string .empty) := by rw [Go.Joins.cell_of_block z1]; rfl
  have z3 : (w1.alloc (.cells #[.string .empty, .int .i64 0] 76)).cell? ⟨w1.heap.size, 1, none⟩ = some (.int .i64 0) := by rw [Go.Joins.cell_of_block z1]; rfl
  have z4 := Go.Joins.unfrozen_of_block z1 0
  have z5 := Go.Joins.unfrozen_of_block z1 1
  have m1 : w2.heap[w1.heap.size]? = some (.cells #[.string e.k, .int .i64 e.r] 76 (0, 0)) := by rw [hw2]; exact heap_alloc_new w1 _
  have m2 : w2.cell? ⟨w1.heap.size, 0, none⟩ = some (.string e.k) := by rw [Go.Joins.cell_of_block m1]; rfl
  have m3 : w2.cell? ⟨w1.heap.size, 1, none⟩ = some (.int .i64 e.r) := by rw [Go.Joins.cell_of_block m1]; rfl
  have M1 := hide2 m1
  clear HB h1 hF1 o1 c0 c7 c2 h2 o2 b0 b1 b3 b4 b5 b6 b9 hn z1 m1
  go_wp2
  rw [← hw2]
  have HW2 := hide2 hw2
  clear hw2 z2 z3 z4 z5 hlk d0 d1 d2 d3
  have hk2 : (e.k.toList == o.k.toList) = true := by rw [HK.out]; simp
  go_quiet (fail)
  have o3 : Om (w2.drewN nq) ob (tp tb) o := O2.out.same rfl
  have hFq : Fr (fun _ => False) w2 (w2.drewN nq) := (Fr.refl _ w2).drewN nq
  have h3 := H2.out.keep hFq (fun _ _ e => e) (fun e => e)
  have HA := hide2 (answer_any o3 e.r true 0)
  have H3 := hide2 h3
  obtain ⟨w3, hw3⟩ : ∃ x, x = w2.drewN nq := ⟨_, rfl⟩
  have HW3 := hide2 hw3
  rw [← hw3] at HA H3 hFq o3 ⊢
  have g3 : w3.cell? ⟨w1.heap.size, 1, none⟩ = some (.int .i64 e.r) := by rw [hw3]; exact m3
  clear hw3 h3 o3 m2 m3 b2 b7 b8 f7
  go_wp2_with fail
  refine HA.out.mono ?_
  rintro e' w4 ⟨rfl, o4, hF4⟩
  have h4 := H3.out.keep hF4 (fun j hj e => hob (e ▸ hj)) (fun e => HO.out.zero H.out.tab e.symm)
  have HS := hide2 (h4.isSpare (cellI o.cell))
  obtain ⟨a0, a1, a2, a3, a4, a5, a6, a7, a8, a9⟩ := o4.cells
  have f6 := o4.free 6
  have hlt4 := o4.lt
  have H4 := hide2 h4
  have O4 := hide2 o4
  have hFF : Fr (fun j => K j ∨ j = ob) w w4 := (((hF1K.mono (G := fun j => K j ∨ j = ob) (fun _ _ e => .inl e)).trans hF2 (fun j e => e.elim)).trans hFq (fun j e => e.elim)).trans hF4 (fun j e => .inl (.inr e))
  have ESP := hide2 (spare_cell o s)
  clear HA h4 o4 g3 a0 a1 a2 a3 a4 a5 a7 a9
  have a8' : w4.cell? ⟨ob, 8, none⟩ = some (.int .i64 (cellI o.cell)) := a8
  clear a8
  by_cases hsp : o.spare s = true
  · have e1 := ESP.out
    rw [hsp] at e1
    rw [e1] at HS
    clear e1
    go_wp2_with fail
    refine HS.out.mono ?_
    rintro e' w5 ⟨rfl, q5⟩
    subst q5
    go_wp2
    go_end0
    exact ⟨rfl, H4.out.keep (Fr.setCell (p := ⟨ob, 6, none⟩) (Fr.refl (fun j => j = ob) _) (.inl rfl) _) (fun j hj e => hob (e ▸ hj)) (fun e => HO.out.zero H.out.tab e.symm), O4.out.setSt 2, hFF.setCell (p := ⟨ob, 6, none⟩) (.inl (.inr rfl)) _⟩
  · have e1 := ESP.out
    rw [show o.spare s = false by simpa using hsp] at e1
    rw [e1] at HS
    clear e1
    go_wp2_with fail
    refine HS.out.mono ?_
    rintro e' w5 ⟨rfl, q5⟩
    subst q5
    go_wp2
    go_end0
    exact ⟨rfl, H4.out, O4.out, hFF⟩
end
end Go.Proofs.YtbpihkojmbfccaaDoor
