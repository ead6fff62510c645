/-
  Layer 15: what was seen of a chain: a struct of three rows that a call has made; add. (Printed by gen_vs4.py.)
-/
import Derived.Test.YtfhcphgjaobnoaaDoorVs2
import Derived.Test.YtfhcphgjaobnoaaDoorVs3
set_option linter.unusedVariables false
set_option linter.unusedSimpArgs false
namespace Go.Proofs.YtfhcphgjaobnoaaDoor
open Go.RowKit Go.Maps

def uv (x : Int) : Value := .int .u64 x
/-- A row of words that a call has made. -/
def Ur (w : World) (base : Nat) (v : Value) (xs : List Int) : Prop := w.ownsRow base 54 1 v xs.length (xs.map uv)
theorem infoUv : (Tryd.prog.info? 54).map (fun i => (i.zero, i.size, i.bytes)) = some (some (.int .u64 0), 1, 8) := by kernel_rfl
section
variable {w w' : World} {base B : Nat} {v : Value} {xs : List Int}
theorem Ur.form (h : Ur w base v xs) : ∃ ao cap, v = .slice ao xs.length cap := by
  rcases h.2 with ⟨rfl, h0⟩ | ⟨g, cap, cur, rfl, _⟩
  · exact ⟨none, 0, by rw [h0]⟩
  · exact ⟨_, cap, rfl⟩
theorem Ur.seq (h : Ur w base v xs) : ∃ ao cap, v = .slice ao xs.length cap ∧ Seq 1 uh w ao xs.length cap xs := by
  rcases h.2 with ⟨rfl, h0⟩ | ⟨g, cap, cur, rfl, hg, hh, hn, hm, hs, ht⟩
  · exact ⟨none, 0, by rw [h0], ⟨by simp, by omega, Nat.zero_le _, fun h => absurd h (by omega)⟩⟩
  · refine ⟨_, cap, rfl, ⟨by simp, hn, hm, fun _ => ⟨g, 0, rfl, (Array.getElem?_eq_some_iff.1 hh).1, fun i x hi j u hj => ?_⟩⟩⟩
    have hj0 : j = 0 := by
      rcases j with _ | j
      · rfl
      · simp [uh] at hj
    subst hj0
    simp [uh] at hj
    subst hj
    rw [Go.Joins.cell_of_block hh]
    have hi2 : i < xs.length := (List.getElem?_eq_some_iff.1 hi).1
    rw [← Array.getElem?_toList]
    have : (cur.toList.take (xs.length * 1))[i]? = some (uv xs[i]) := by rw [ht]; simp [hi2]
    rw [List.getElem?_take, if_pos (by omega)] at this
    have e : x = xs[i] := by
      rw [List.getElem?_eq_getElem hi2] at hi
      simpa using hi.symm
    rw [e]
    simpa [uv] using this
theorem Ur.fr {G : Nat → Prop} (h : Ur w B v xs) (hF : Fr G w w') (hn : ∀ j, v.ownBlock = some j → ¬ G j) : Ur w' B v xs := hrow_fr h hF hn
theorem Hr.fr {G : Nat → Prop} {l : List Nat} (h : Hr w B v l) (hF : Fr G w w') (hn : ∀ j, v.ownBlock = some j → ¬ G j) : Hr w' B v l := hrow_fr h hF hn
end

/-- The blocks of what was seen. -/
def SgB (g : Nat) (v0 v1 v2 : Value) (j : Nat) : Prop := j = g ∨ v0.ownBlock = some j ∨ v1.ownBlock = some j ∨ v2.ownBlock = some j
structure Sg (w : World) (B g : Nat) (v0 v1 v2 : Value) (l : List Nat) (bs es : List Int) : Prop where
  bk : w.heap[g]? = some (.cells #[v0, v1, v2] 136 (0, 0))
  gb : B ≤ g
  r0 : Hr w B v0 l
  r1 : Ur w B v1 bs
  r2 : Ur w B v2 es
  n0 : v0.ownBlock ≠ some g
  n1 : v1.ownBlock ≠ some g
  n2 : v2.ownBlock ≠ some g
  a01 : ∀ j, v0.ownBlock = some j → v1.ownBlock ≠ some j
  a02 : ∀ j, v0.ownBlock = some j → v2.ownBlock ≠ some j
  a12 : ∀ j, v1.ownBlock = some j → v2.ownBlock ≠ some j
section
variable {w w' w4 : World} {B g : Nat} {v0 v1 v2 v' : Value} {l l' : List Nat} {bs es xs : List Int}
theorem Sg.lt (h : Sg w B g v0 v1 v2 l bs es) : g < w.heap.size := (Array.getElem?_eq_some_iff.1 h.bk).1
theorem Sg.ge (h : Sg w B g v0 v1 v2 l bs es) {j : Nat} (e : SgB g v0 v1 v2 j) : B ≤ j ∧ j < w.heap.size := by
  rcases e with e | e | e | e
  · rw [e]; exact ⟨h.gb, h.lt⟩
  · exact World.ownsRow.lt h.r0 j e
  · exact World.ownsRow.lt h.r1 j e
  · exact World.ownsRow.lt h.r2 j e
theorem Sg.keep {G : Nat → Prop} (h : Sg w B g v0 v1 v2 l bs es) (hF : Fr G w w') (hG : ∀ j, SgB g v0 v1 v2 j → ¬ G j) : Sg w' B g v0 v1 v2 l bs es :=
  ⟨(hF.block g h.lt (hG g (.inl rfl))).trans h.bk, h.gb, h.r0.fr hF (fun j e => hG j (.inr (.inl e))), h.r1.fr hF (fun j e => hG j (.inr (.inr (.inl e)))), h.r2.fr hF (fun j e => hG j (.inr (.inr (.inr e)))), h.n0, h.n1, h.n2, h.a01, h.a02, h.a12⟩
theorem Sg.put0 (h : Sg w B g v0 v1 v2 l bs es) (hF : Fr (fun j => v0.ownBlock = some j) w w4) (hr : Hr w4 B v' l') (hbk : ∀ j, v'.ownBlock = some j → v0.ownBlock = some j ∨ w.heap.size ≤ j) :
    Sg (w4.setCell ⟨g, 0, none⟩ v') B g v' v1 v2 l' bs es ∧ Fr (SgB g v0 v1 v2) w (w4.setCell ⟨g, 0, none⟩ v') ∧ ∀ j, SgB g v' v1 v2 j → SgB g v0 v1 v2 j ∨ w.heap.size ≤ j := by
  have hgl := h.lt
  have hbk2 : w4.heap[g]? = some (.cells #[v0, v1, v2] 136 (0, 0)) := (hF.block g hgl h.n0).trans h.bk
  have hne : v'.ownBlock ≠ some g := fun e => by
    rcases hbk g e with q | q
    · exact h.n0 q
    · omega
  have hF2 : Fr (fun j => j = g) w4 (w4.setCell ⟨g, 0, none⟩ v') := Fr.setCell (p := ⟨g, 0, none⟩) (Fr.refl (fun j => j = g) w4) (.inl rfl) _
  refine ⟨⟨by rw [Go.Joins.block_setCell hbk2]; rfl, h.gb, hr.fr hF2 (fun j e z => hne (z ▸ e)), (h.r1.fr hF (fun j e => (fun z => h.a01 j z e))).fr hF2 (fun j e z => h.n1 (z ▸ e)), (h.r2.fr hF (fun j e => (fun z => h.a02 j z e))).fr hF2 (fun j e z => h.n2 (z ▸ e)), hne, h.n1, h.n2, ?_, ?_, ?_⟩, ?_, ?_⟩
  · exact fun j e z => by
      rcases hbk j e with q | q
      · exact h.a01 j q z
      · have := (World.ownsRow.lt h.r1 j z).2
        omega
  · exact fun j e z => by
      rcases hbk j e with q | q
      · exact h.a02 j q z
      · have := (World.ownsRow.lt h.r2 j z).2
        omega
  · exact h.a12
  · exact (hF.mono (G := SgB g v0 v1 v2) (fun j _ e => .inr (.inl e))).trans (G := fun j => j = g) hF2 (fun j e => .inl (.inl e))
  · rintro j (e | e | e | e)
    · exact .inl (.inl e)
    · rcases hbk j e with q | q
      · exact .inl (.inr (.inl q))
      · exact .inr q
    · exact .inl (.inr (.inr (.inl e)))
    · exact .inl (.inr (.inr (.inr e)))
theorem Sg.put1 (h : Sg w B g v0 v1 v2 l bs es) (hF : Fr (fun j => v1.ownBlock = some j) w w4) (hr : Ur w4 B v' xs) (hbk : ∀ j, v'.ownBlock = some j → v1.ownBlock = some j ∨ w.heap.size ≤ j) :
    Sg (w4.setCell ⟨g, 1, none⟩ v') B g v0 v' v2 l xs es ∧ Fr (SgB g v0 v1 v2) w (w4.setCell ⟨g, 1, none⟩ v') ∧ ∀ j, SgB g v0 v' v2 j → SgB g v0 v1 v2 j ∨ w.heap.size ≤ j := by
  have hgl := h.lt
  have hbk2 : w4.heap[g]? = some (.cells #[v0, v1, v2] 136 (0, 0)) := (hF.block g hgl h.n1).trans h.bk
  have hne : v'.ownBlock ≠ some g := fun e => by
    rcases hbk g e with q | q
    · exact h.n1 q
    · omega
  have hF2 : Fr (fun j => j = g) w4 (w4.setCell ⟨g, 1, none⟩ v') := Fr.setCell (p := ⟨g, 1, none⟩) (Fr.refl (fun j => j = g) w4) (.inl rfl) _
  refine ⟨⟨by rw [Go.Joins.block_setCell hbk2]; rfl, h.gb, (h.r0.fr hF (fun j e => (fun z => h.a01 j e z))).fr hF2 (fun j e z => h.n0 (z ▸ e)), hr.fr hF2 (fun j e z => hne (z ▸ e)), (h.r2.fr hF (fun j e => (fun z => h.a12 j z e))).fr hF2 (fun j e z => h.n2 (z ▸ e)), h.n0, hne, h.n2, ?_, ?_, ?_⟩, ?_, ?_⟩
  · exact fun j e z => by
      rcases hbk j z with q | q
      · exact h.a01 j e q
      · have := (World.ownsRow.lt h.r0 j e).2
        omega
  · exact h.a02
  · exact fun j e z => by
      rcases hbk j e with q | q
      · exact h.a12 j q z
      · have := (World.ownsRow.lt h.r2 j z).2
        omega
  · exact (hF.mono (G := SgB g v0 v1 v2) (fun j _ e => .inr (.inr (.inl e)))).trans (G := fun j => j = g) hF2 (fun j e => .inl (.inl e))
  · rintro j (e | e | e | e)
    · exact .inl (.inl e)
    · exact .inl (.inr (.inl e))
    · rcases hbk j e with q | q
      · exact .inl (.inr (.inr (.inl q)))
      · exact .inr q
    · exact .inl (.inr (.inr (.inr e)))
theorem Sg.put2 (h : Sg w B g v0 v1 v2 l bs es) (hF : Fr (fun j => v2.ownBlock = some j) w w4) (hr : Ur w4 B v' xs) (hbk : ∀ j, v'.ownBlock = some j → v2.ownBlock = some j ∨ w.heap.size ≤ j) :
    Sg (w4.setCell ⟨g, 2, none⟩ v') B g v0 v1 v' l bs xs ∧ Fr (SgB g v0 v1 v2) w (w4.setCell ⟨g, 2, none⟩ v') ∧ ∀ j, SgB g v0 v1 v' j → SgB g v0 v1 v2 j ∨ w.heap.size ≤ j := by
  have hgl := h.lt
  have hbk2 : w4.heap[g]? = some (.cells #[v0, v1, v2] 136 (0, 0)) := (hF.block g hgl h.n2).trans h.bk
  have hne : v'.ownBlock ≠ some g := fun e => by
    rcases hbk g e with q | q
    · exact h.n2 q
    · omega
  have hF2 : Fr (fun j => j = g) w4 (w4.setCell ⟨g, 2, none⟩ v') := Fr.setCell (p := ⟨g, 2, none⟩) (Fr.refl (fun j => j = g) w4) (.inl rfl) _
  refine ⟨⟨by rw [Go.Joins.block_setCell hbk2]; rfl, h.gb, (h.r0.fr hF (fun j e => (fun z => h.a02 j e z))).fr hF2 (fun j e z => h.n0 (z ▸ e)), (h.r1.fr hF (fun j e => (fun z => h.a12 j e z))).fr hF2 (fun j e z => h.n1 (z ▸ e)), hr.fr hF2 (fun j e z => hne (z ▸ e)), h.n0, h.n1, hne, ?_, ?_, ?_⟩, ?_, ?_⟩
  · exact h.a01
  · exact fun j e z => by
      rcases hbk j z with q | q
      · exact h.a02 j e q
      · have := (World.ownsRow.lt h.r0 j e).2
        omega
  · exact fun j e z => by
      rcases hbk j z with q | q
      · exact h.a12 j e q
      · have := (World.ownsRow.lt h.r1 j e).2
        omega
  · exact (hF.mono (G := SgB g v0 v1 v2) (fun j _ e => .inr (.inr (.inr e)))).trans (G := fun j => j = g) hF2 (fun j e => .inl (.inl e))
  · rintro j (e | e | e | e)
    · exact .inl (.inl e)
    · exact .inl (.inr (.inl e))
    · exact .inl (.inr (.inr (.inl e)))
    · rcases hbk j e with q | q
      · exact .inl (.inr (.inr (.inr q)))
      · exact .inr q
theorem Sg.cells (h : Sg w B g v0 v1 v2 l bs es) : w.cell? ⟨g, 0, none⟩ = some v0 ∧ w.cell? ⟨g, 1, none⟩ = some v1 ∧ w.cell? ⟨g, 2, none⟩ = some v2 := by
  refine ⟨?_, ?_, ?_⟩ <;> · rw [Go.Joins.cell_of_block h.bk]; rfl
theorem Sg.free (h : Sg w B g v0 v1 v2 l bs es) (i : Nat) : w.frozen? ⟨g, i, none⟩ = false := Go.Joins.unfrozen_of_block h.bk i
end

section
variable {w : World} {B g : Nat} {v0 v1 v2 : Value} {l : List Nat} {bs es : List Int}
set_option maxRecDepth 100000 in
set_option maxHeartbeats 4000000 in
theorem add_any (h : Sg w B g v0 v1 v2 l bs es) (hB : B ≤ w.heap.size) (hl : l.length < 1000000) (hbl : bs.length < 1000000) (hel : es.length < 1000000) (x : Nat) (b e0 : Int) :
    Calls Tryd.prog 98 #[.pointer (some ⟨g, 0, none⟩), .int .i64 (x : Int), .int .u64 b, .int .u64 e0] w fun e w' => e = .returned (.tuple #[]) ∧ ∃ u0 u1 u2, Sg w' B g u0 u1 u2 (l ++ [x]) (bs ++ [b]) (es ++ [e0]) ∧ Fr (SgB g v0 v1 v2) w w' ∧ ∀ j, SgB g u0 u1 u2 j → SgB g v0 v1 v2 j ∨ w.heap.size ≤ j := by
  obtain ⟨i0, hi0, z0, z1, z2⟩ := info_parts infoH
  obtain ⟨k0, hk0, y0, y1, y2⟩ := info_parts infoUv
  have hgl := h.lt
  obtain ⟨c0, c1, c2⟩ := h.cells
  have fz := h.free
  have HOB := hide2 hB
  have H0 := hide2 h
  obtain ⟨a0, p0, ev0⟩ := h.r0.form
  obtain ⟨a1, p1, ev1⟩ := h.r1.form
  obtain ⟨a2, p2, ev2⟩ := h.r2.form
  subst ev0 ev1 ev2
  clear h
  go_enter Tryd.func98, Tryd.ntmps98
  have hn0 := hcell_new w (.int .i64 (x : Int)) 3
  have HN0 := hide2 hn0
  clear hn0
  have hO0 : w.ownsRow B 3 1 (Value.slice a0 l.length p0) l.length (l.map nv) := H0.out.r0
  have HO0 := hide2 hO0
  clear hO0
  go_wp2_with (at_builtin; refine Hid.out ?_)
  refine hide2 ?_
  refine wpList_append_own_at _ rfl _ _ 29 rfl B 3 i0 (.int .i64 0) 1 8 Tryd.underlying29 hi0 z0 z1 z2 rfl (by decide) (Value.slice a0 l.length p0) _ _ rfl (World.ownsRow.alloc HO0.out _) ⟨w.heap.size, 0, none⟩ 1 1 [.int .i64 (x : Int)] rfl rfl HN0.out (by simp [Value.oneCell']) (by unfold maxLen; omega) (by omega) (by have := HOB.out; simp; omega) ?_
  intro u0 x0 hown4 hgrow4 hat4 hb4
  obtain ⟨gt0, cp0, eu0⟩ := hrow_succ hown4
  have hFg : Fr (fun j => (Value.slice a0 l.length p0).ownBlock = some j) w x0 := ((Fr.refl (fun j => (Value.slice a0 l.length p0).ownBlock = some j) w).alloc (.cells #[.int .i64 (x : Int)] 3)).trans (Fr.grown hgrow4 (fun j e => e)) (fun j e => .inl e)
  have hr4 : Hr x0 B u0 (l ++ [x]) := by
    unfold Hr
    rw [List.length_append, List.length_singleton, List.map_append]
    exact hown4
  have hP := H0.out.put0 hFg hr4 (fun j e => by
    rcases hb4 with e5 | e5
    · exact .inl (by rw [← e5]; exact e)
    · right
      rw [e5] at e
      simp at e
      omega)
  have hbk4 := (hFg.block g H0.out.lt H0.out.n0).trans H0.out.bk
  have hx4 : g < x0.heap.size := (Array.getElem?_eq_some_iff.1 hbk4).1
  have y40 : x0.cell? ⟨g, 0, none⟩ = some (Value.slice a0 l.length p0) := by rw [Go.Joins.cell_of_block hbk4]; rfl
  have y41 : x0.cell? ⟨g, 1, none⟩ = some (Value.slice a1 bs.length p1) := by rw [Go.Joins.cell_of_block hbk4]; rfl
  have y42 : x0.cell? ⟨g, 2, none⟩ = some (Value.slice a2 es.length p2) := by rw [Go.Joins.cell_of_block hbk4]; rfl
  have fz5 : ∀ i, x0.frozen? ⟨g, i, none⟩ = false := fun i => Go.Joins.unfrozen_of_block hbk4 i
  have fz4 : x0.frozen? ⟨g, 0, none⟩ = false := Go.Joins.unfrozen_of_block hbk4 0
  clear hown4 hgrow4 hat4 hb4 hFg hr4 hbk4 HN0 HO0
  obtain ⟨hS, hF, hJ⟩ := hP
  obtain ⟨w1, hw1⟩ : ∃ q, q = x0.setCell ⟨g, 0, none⟩ u0 := ⟨_, rfl⟩
  rw [← hw1] at hS hF
  have HF0 := hide2 hF
  have HJ0 := hide2 hJ
  have H1 := hide2 hS
  have hs1 := hF.size
  have HS1 : Hid (w.heap.size ≤ w1.heap.size) := hide2 (by omega)
  clear hF hJ hS c0 c1 c2 fz hgl
  subst eu0
  go_frame
  try rw [← hw1]
  have hgl := H1.out.lt
  obtain ⟨c0, c1, c2⟩ := H1.out.cells
  have fz := H1.out.free
  have hn1 := hcell_new w1 (.int .u64 b) 54
  have hws1 : w1.heap.size = x0.heap.size := by rw [hw1]; simp [World.setCell]
  rw [hws1] at hn1
  have HN1 := hide2 hn1
  clear hn1
  have hO1 : w1.ownsRow B 54 1 (Value.slice a1 bs.length p1) bs.length (bs.map uv) := H1.out.r1
  have HO1 := hide2 hO1
  clear hO1
  go_wp2_with (at_builtin; refine Hid.out ?_)
  refine hide2 ?_
  rw [← hw1]
  refine wpList_append_own_at _ rfl _ _ 23 rfl B 54 k0 (.int .u64 0) 1 8 Tryd.underlying23 hk0 y0 y1 y2 rfl (by decide) (Value.slice a1 bs.length p1) _ _ rfl (World.ownsRow.alloc HO1.out _) ⟨x0.heap.size, 0, none⟩ 1 1 [.int .u64 b] rfl rfl HN1.out (by simp [Value.oneCell']) (by unfold maxLen; omega) (by omega) (by have := HOB.out; have := HS1.out; simp; omega) ?_
  intro u1 x1 hown4 hgrow4 hat4 hb4
  obtain ⟨gt1, cp1, eu1⟩ := hrow_succ hown4
  have hFg : Fr (fun j => (Value.slice a1 bs.length p1).ownBlock = some j) w1 x1 := ((Fr.refl (fun j => (Value.slice a1 bs.length p1).ownBlock = some j) w1).alloc (.cells #[.int .u64 b] 54)).trans (Fr.grown hgrow4 (fun j e => e)) (fun j e => .inl e)
  have hr4 : Ur x1 B u1 (bs ++ [b]) := by
    unfold Ur
    rw [List.length_append, List.length_singleton, List.map_append]
    exact hown4
  have hP := H1.out.put1 hFg hr4 (fun j e => by
    rcases hb4 with e5 | e5
    · exact .inl (by rw [← e5]; exact e)
    · right
      rw [e5] at e
      simp at e
      omega)
  have hbk4 := (hFg.block g H1.out.lt H1.out.n1).trans H1.out.bk
  have hx4 : g < x1.heap.size := (Array.getElem?_eq_some_iff.1 hbk4).1
  have y40 : x1.cell? ⟨g, 0, none⟩ = some (Value.slice (some ⟨gt0, 0, none⟩) (l.length + 1) cp0) := by rw [Go.Joins.cell_of_block hbk4]; rfl
  have y41 : x1.cell? ⟨g, 1, none⟩ = some (Value.slice a1 bs.length p1) := by rw [Go.Joins.cell_of_block hbk4]; rfl
  have y42 : x1.cell? ⟨g, 2, none⟩ = some (Value.slice a2 es.length p2) := by rw [Go.Joins.cell_of_block hbk4]; rfl
  have fz5 : ∀ i, x1.frozen? ⟨g, i, none⟩ = false := fun i => Go.Joins.unfrozen_of_block hbk4 i
  have fz4 : x1.frozen? ⟨g, 1, none⟩ = false := Go.Joins.unfrozen_of_block hbk4 1
  clear hown4 hgrow4 hat4 hb4 hFg hr4 hbk4 HN1 HO1
  obtain ⟨hS, hF, hJ⟩ := hP
  obtain ⟨w2, hw2⟩ : ∃ q, q = x1.setCell ⟨g, 1, none⟩ u1 := ⟨_, rfl⟩
  rw [← hw2] at hS hF
  have HF1 := hide2 hF
  have HJ1 := hide2 hJ
  have H2 := hide2 hS
  have hs2 := hF.size
  have HS2 : Hid (w.heap.size ≤ w2.heap.size) := hide2 (by have := HS1.out; omega)
  clear hF hJ hS c0 c1 c2 fz hgl
  subst eu1
  go_frame
  try rw [← hw2]
  have hgl := H2.out.lt
  obtain ⟨c0, c1, c2⟩ := H2.out.cells
  have fz := H2.out.free
  have hn2 := hcell_new w2 (.int .u64 e0) 54
  have hws2 : w2.heap.size = x1.heap.size := by rw [hw2]; simp [World.setCell]
  rw [hws2] at hn2
  have HN2 := hide2 hn2
  clear hn2
  have hO2 : w2.ownsRow B 54 1 (Value.slice a2 es.length p2) es.length (es.map uv) := H2.out.r2
  have HO2 := hide2 hO2
  clear hO2
  go_wp2_with (at_builtin; refine Hid.out ?_)
  refine hide2 ?_
  rw [← hw2]
  refine wpList_append_own_at _ rfl _ _ 23 rfl B 54 k0 (.int .u64 0) 1 8 Tryd.underlying23 hk0 y0 y1 y2 rfl (by decide) (Value.slice a2 es.length p2) _ _ rfl (World.ownsRow.alloc HO2.out _) ⟨x1.heap.size, 0, none⟩ 1 1 [.int .u64 e0] rfl rfl HN2.out (by simp [Value.oneCell']) (by unfold maxLen; omega) (by omega) (by have := HOB.out; have := HS2.out; simp; omega) ?_
  intro u2 x2 hown4 hgrow4 hat4 hb4
  obtain ⟨gt2, cp2, eu2⟩ := hrow_succ hown4
  have hFg : Fr (fun j => (Value.slice a2 es.length p2).ownBlock = some j) w2 x2 := ((Fr.refl (fun j => (Value.slice a2 es.length p2).ownBlock = some j) w2).alloc (.cells #[.int .u64 e0] 54)).trans (Fr.grown hgrow4 (fun j e => e)) (fun j e => .inl e)
  have hr4 : Ur x2 B u2 (es ++ [e0]) := by
    unfold Ur
    rw [List.length_append, List.length_singleton, List.map_append]
    exact hown4
  have hP := H2.out.put2 hFg hr4 (fun j e => by
    rcases hb4 with e5 | e5
    · exact .inl (by rw [← e5]; exact e)
    · right
      rw [e5] at e
      simp at e
      omega)
  have hbk4 := (hFg.block g H2.out.lt H2.out.n2).trans H2.out.bk
  have hx4 : g < x2.heap.size := (Array.getElem?_eq_some_iff.1 hbk4).1
  have y40 : x2.cell? ⟨g, 0, none⟩ = some (Value.slice (some ⟨gt0, 0, none⟩) (l.length + 1) cp0) := by rw [Go.Joins.cell_of_block hbk4]; rfl
  have y41 : x2.cell? ⟨g, 1, none⟩ = some (Value.slice (some ⟨gt1, 0, none⟩) (bs.length + 1) cp1) := by rw [Go.Joins.cell_of_block hbk4]; rfl
  have y42 : x2.cell? ⟨g, 2, none⟩ = some (Value.slice a2 es.length p2) := by rw [Go.Joins.cell_of_block hbk4]; rfl
  have fz5 : ∀ i, x2.frozen? ⟨g, i, none⟩ = false := fun i => Go.Joins.unfrozen_of_block hbk4 i
  have fz4 : x2.frozen? ⟨g, 2, none⟩ = false := Go.Joins.unfrozen_of_block hbk4 2
  clear hown4 hgrow4 hat4 hb4 hFg hr4 hbk4 HN2 HO2
  obtain ⟨hS, hF, hJ⟩ := hP
  obtain ⟨w3, hw3⟩ : ∃ q, q = x2.setCell ⟨g, 2, none⟩ u2 := ⟨_, rfl⟩
  rw [← hw3] at hS hF
  have HF2 := hide2 hF
  have HJ2 := hide2 hJ
  have H3 := hide2 hS
  have hs3 := hF.size
  have HS3 : Hid (w.heap.size ≤ w3.heap.size) := hide2 (by have := HS2.out; omega)
  clear hF hJ hS c0 c1 c2 fz hgl
  subst eu2
  go_frame
  go_wp2
  try rw [← hw3]
  go_end0
  refine ⟨rfl, _, _, _, H3.out, ?_, ?_⟩
  · exact (HF0.out.trans HF1.out (fun j e => HJ0.out j e)).trans HF2.out (fun j e => by
      rcases HJ1.out j e with q | q
      · exact HJ0.out j q
      · exact .inr (by omega))
  · intro j e
    rcases HJ2.out j e with q | q
    · rcases HJ1.out j q with q | q
      · exact HJ0.out j q
      · exact .inr (by omega)
    · exact .inr (by omega)
end
end Go.Proofs.YtfhcphgjaobnoaaDoor
