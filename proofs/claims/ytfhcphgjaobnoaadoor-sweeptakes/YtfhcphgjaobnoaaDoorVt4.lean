/-
  Vs4: Layer 15: what was seen of a chain: a struct of three rows that a call has made; add. (Printed by gen_vs4.py.)
  Vs5: Layer 15: look: what is seen of a node's chain.
  Vs6: Layer 15: split; a node is swept.
-/
import Derived.Test.YtfhcphgjaobnoaaDoorVt2
import Derived.Test.YtfhcphgjaobnoaaDoorVt0
import Derived.Test.YtfhcphgjaobnoaaDoorTbB
set_option linter.unusedVariables false
set_option linter.unusedSimpArgs false
namespace Go.Proofs.YtfhcphgjaobnoaaDoor

section
open Go.RowKit Go.Maps

def uv (x : Int) : Value := .int .u64 x
/-- A row of words that a call has made. -/
def Ur (w : World) (base : Nat) (v : Value) (xs : List Int) : Prop := w.ownsRow base 54 1 v xs.length (xs.map uv)
theorem infoUv : (Tryd.prog.info? 54).map (fun i => (i.zero, i.size, i.bytes)) = some (some (.int .u64 0), 1, 8) := by kernel_rfl
section
variable {w w' : World} {base B : Nat} {v : Value} {xs : List Int}
theorem Ur.form (h : Ur w base v xs) : ∃ ao cap, v = .slice ao xs.length cap := by
  rcases h.2 with ⟨rfl, h0⟩ | ⟨g, cap, cur, rfl, _⟩
  · exact ⟨none, 0, by rw [h0]⟩
  · exact ⟨_, cap, rfl⟩
theorem Ur.seq (h : Ur w base v xs) : ∃ ao cap, v = .slice ao xs.length cap ∧ Seq 1 uh w ao xs.length cap xs := by
  rcases h.2 with ⟨rfl, h0⟩ | ⟨g, cap, cur, rfl, hg, hh, hn, hm, hs, ht⟩
  · exact ⟨none, 0, by rw [h0], ⟨by simp, by omega, Nat.zero_le _, fun h => absurd h (by omega)⟩⟩
  · refine ⟨_, cap, rfl, ⟨by simp, hn, hm, fun _ => ⟨g, 0, rfl, (Array.getElem?_eq_some_iff.1 hh).1, fun i x hi j u hj => ?_⟩⟩⟩
    have hj0 : j = 0 := by
      rcases j with _ | j
      · rfl
      · simp [uh] at hj
    subst hj0
    simp [uh] at hj
    subst hj
    rw [Go.Joins.cell_of_block hh]
    have hi2 : i < xs.length := (List.getElem?_eq_some_iff.1 hi).1
    rw [← Array.getElem?_toList]
    have : (cur.toList.take (xs.length * 1))[i]? = some (uv xs[i]) := by rw [ht]; simp [hi2]
    rw [List.getElem?_take, if_pos (by omega)] at this
    have e : x = xs[i] := by
      rw [List.getElem?_eq_getElem hi2] at hi
      simpa using hi.symm
    rw [e]
    simpa [uv] using this
theorem Ur.fr {G : Nat → Prop} (h : Ur w B v xs) (hF : Fr G w w') (hn : ∀ j, v.ownBlock = some j → ¬ G j) : Ur w' B v xs := hrow_fr h hF hn
theorem Hr.fr {G : Nat → Prop} {l : List Nat} (h : Hr w B v l) (hF : Fr G w w') (hn : ∀ j, v.ownBlock = some j → ¬ G j) : Hr w' B v l := hrow_fr h hF hn
end

/-- The blocks of what was seen. -/
def SgB (g : Nat) (v0 v1 v2 : Value) (j : Nat) : Prop := j = g ∨ v0.ownBlock = some j ∨ v1.ownBlock = some j ∨ v2.ownBlock = some j
structure Sg (w : World) (B g : Nat) (v0 v1 v2 : Value) (l : List Nat) (bs es : List Int) : Prop where
  bk : w.heap[g]? = some (.cells #[v0, v1, v2] 136 (0, 0))
  gb : B ≤ g
  r0 : Hr w B v0 l
  r1 : Ur w B v1 bs
  r2 : Ur w B v2 es
  n0 : v0.ownBlock ≠ some g
  n1 : v1.ownBlock ≠ some g
  n2 : v2.ownBlock ≠ some g
  a01 : ∀ j, v0.ownBlock = some j → v1.ownBlock ≠ some j
  a02 : ∀ j, v0.ownBlock = some j → v2.ownBlock ≠ some j
  a12 : ∀ j, v1.ownBlock = some j → v2.ownBlock ≠ some j
section
variable {w w' w4 : World} {B g : Nat} {v0 v1 v2 v' : Value} {l l' : List Nat} {bs es xs : List Int}
theorem Sg.lt (h : Sg w B g v0 v1 v2 l bs es) : g < w.heap.size := (Array.getElem?_eq_some_iff.1 h.bk).1
theorem Sg.ge (h : Sg w B g v0 v1 v2 l bs es) {j : Nat} (e : SgB g v0 v1 v2 j) : B ≤ j ∧ j < w.heap.size := by
  rcases e with e | e | e | e
  · rw [e]; exact ⟨h.gb, h.lt⟩
  · exact World.ownsRow.lt h.r0 j e
  · exact World.ownsRow.lt h.r1 j e
  · exact World.ownsRow.lt h.r2 j e
theorem Sg.keep {G : Nat → Prop} (h : Sg w B g v0 v1 v2 l bs es) (hF : Fr G w w') (hG : ∀ j, SgB g v0 v1 v2 j → ¬ G j) : Sg w' B g v0 v1 v2 l bs es :=
  ⟨(hF.block g h.lt (hG g (.inl rfl))).trans h.bk, h.gb, h.r0.fr hF (fun j e => hG j (.inr (.inl e))), h.r1.fr hF (fun j e => hG j (.inr (.inr (.inl e)))), h.r2.fr hF (fun j e => hG j (.inr (.inr (.inr e)))), h.n0, h.n1, h.n2, h.a01, h.a02, h.a12⟩
theorem Sg.put0 (h : Sg w B g v0 v1 v2 l bs es) (hF : Fr (fun j => v0.ownBlock = some j) w w4) (hr : Hr w4 B v' l') (hbk : ∀ j, v'.ownBlock = some j → v0.ownBlock = some j ∨ w.heap.size ≤ j) :
    Sg (w4.setCell ⟨g, 0, none⟩ v') B g v' v1 v2 l' bs es ∧ Fr (SgB g v0 v1 v2) w (w4.setCell ⟨g, 0, none⟩ v') ∧ ∀ j, SgB g v' v1 v2 j → SgB g v0 v1 v2 j ∨ w.heap.size ≤ j := by
  have hgl := h.lt
  have hbk2 : w4.heap[g]? = some (.cells #[v0, v1, v2] 136 (0, 0)) := (hF.block g hgl h.n0).trans h.bk
  have hne : v'.ownBlock ≠ some g := fun e => by
    rcases hbk g e with q | q
    · exact h.n0 q
    · omega
  have hF2 : Fr (fun j => j = g) w4 (w4.setCell ⟨g, 0, none⟩ v') := Fr.setCell (p := ⟨g, 0, none⟩) (Fr.refl (fun j => j = g) w4) (.inl rfl) _
  refine ⟨⟨by rw [Go.Joins.block_setCell hbk2]; rfl, h.gb, hr.fr hF2 (fun j e z => hne (z ▸ e)), (h.r1.fr hF (fun j e => (fun z => h.a01 j z e))).fr hF2 (fun j e z => h.n1 (z ▸ e)), (h.r2.fr hF (fun j e => (fun z => h.a02 j z e))).fr hF2 (fun j e z => h.n2 (z ▸ e)), hne, h.n1, h.n2, ?_, ?_, ?_⟩, ?_, ?_⟩
  · exact fun j e z => by
      rcases hbk j e with q | q
      · exact h.a01 j q z
      · have := (World.ownsRow.lt h.r1 j z).2
        omega
  · exact fun j e z => by
      rcases hbk j e with q | q
      · exact h.a02 j q z
      · have := (World.ownsRow.lt h.r2 j z).2
        omega
  · exact h.a12
  · exact (hF.mono (G := SgB g v0 v1 v2) (fun j _ e => .inr (.inl e))).trans (G := fun j => j = g) hF2 (fun j e => .inl (.inl e))
  · rintro j (e | e | e | e)
    · exact .inl (.inl e)
    · rcases hbk j e with q | q
      · exact .inl (.inr (.inl q))
      · exact .inr q
    · exact .inl (.inr (.inr (.inl e)))
    · exact .inl (.inr (.inr (.inr e)))
theorem Sg.put1 (h : Sg w B g v0 v1 v2 l bs es) (hF : Fr (fun j => v1.ownBlock = some j) w w4) (hr : Ur w4 B v' xs) (hbk : ∀ j, v'.ownBlock = some j → v1.ownBlock = some j ∨ w.heap.size ≤ j) :
    Sg (w4.setCell ⟨g, 1, none⟩ v') B g v0 v' v2 l xs es ∧ Fr (SgB g v0 v1 v2) w (w4.setCell ⟨g, 1, none⟩ v') ∧ ∀ j, SgB g v0 v' v2 j → SgB g v0 v1 v2 j ∨ w.heap.size ≤ j := by
  have hgl := h.lt
  have hbk2 : w4.heap[g]? = some (.cells #[v0, v1, v2] 136 (0, 0)) := (hF.block g hgl h.n1).trans h.bk
  have hne : v'.ownBlock ≠ some g := fun e => by
    rcases hbk g e with q | q
    · exact h.n1 q
    · omega
  have hF2 : Fr (fun j => j = g) w4 (w4.setCell ⟨g, 1, none⟩ v') := Fr.setCell (p := ⟨g, 1, none⟩) (Fr.refl (fun j => j = g) w4) (.inl rfl) _
  refine ⟨⟨by rw [Go.Joins.block_setCell hbk2]; rfl, h.gb, (h.r0.fr hF (fun j e => (fun z => h.a01 j e z))).fr hF2 (fun j e z => h.n0 (z ▸ e)), hr.fr hF2 (fun j e z => hne (z ▸ e)), (h.r2.fr hF (fun j e => (fun z => h.a12 j z e))).fr hF2 (fun j e z => h.n2 (z ▸ e)), h.n0, hne, h.n2, ?_, ?_, ?_⟩, ?_, ?_⟩
  · exact fun j e z => by
      rcases hbk j z with q | q
      · exact h.a01 j e q
      · have := (World.ownsRow.lt h.r0 j e).2
        omega
  · exact h.a02
  · exact fun j e z => by
      rcases hbk j e with q | q
      · exact h.a12 j q z
      · have := (World.ownsRow.lt h.r2 j z).2
        omega
  · exact (hF.mono (G := SgB g v0 v1 v2) (fun j _ e => .inr (.inr (.inl e)))).trans (G := fun j => j = g) hF2 (fun j e => .inl (.inl e))
  · rintro j (e | e | e | e)
    · exact .inl (.inl e)
    · exact .inl (.inr (.inl e))
    · rcases hbk j e with q | q
      · exact .inl (.inr (.inr (.inl q)))
      · exact .inr q
    · exact .inl (.inr (.inr (.inr e)))
theorem Sg.put2 (h : Sg w B g v0 v1 v2 l bs es) (hF : Fr (fun j => v2.ownBlock = some j) w w4) (hr : Ur w4 B v' xs) (hbk : ∀ j, v'.ownBlock = some j → v2.ownBlock = some j ∨ w.heap.size ≤ j) :
    Sg (w4.setCell ⟨g, 2, none⟩ v') B g v0 v1 v' l bs xs ∧ Fr (SgB g v0 v1 v2) w (w4.setCell ⟨g, 2, none⟩ v') ∧ ∀ j, SgB g v0 v1 v' j → SgB g v0 v1 v2 j ∨ w.heap.size ≤ j := by
  have hgl := h.lt
  have hbk2 : w4.heap[g]? = some (.cells #[v0, v1, v2] 136 (0, 0)) := (hF.block g hgl h.n2).trans h.bk
  have hne : v'.ownBlock ≠ some g := fun e => by
    rcases hbk g e with q | q
    · exact h.n2 q
    · omega
  have hF2 : Fr (fun j => j = g) w4 (w4.setCell ⟨g, 2, none⟩ v') := Fr.setCell (p := ⟨g, 2, none⟩) (Fr.refl (fun j => j = g) w4) (.inl rfl) _
  refine ⟨⟨by rw [Go.Joins.block_setCell hbk2]; rfl, h.gb, (h.r0.fr hF (fun j e => (fun z => h.a02 j e z))).fr hF2 (fun j e z => h.n0 (z ▸ e)), (h.r1.fr hF (fun j e => (fun z => h.a12 j e z))).fr hF2 (fun j e z => h.n1 (z ▸ e)), hr.fr hF2 (fun j e z => hne (z ▸ e)), h.n0, h.n1, hne, ?_, ?_, ?_⟩, ?_, ?_⟩
  · exact h.a01
  · exact fun j e z => by
      rcases hbk j z with q | q
      · exact h.a02 j e q
      · have := (World.ownsRow.lt h.r0 j e).2
        omega
  · exact fun j e z => by
      rcases hbk j z with q | q
      · exact h.a12 j e q
      · have := (World.ownsRow.lt h.r1 j e).2
        omega
  · exact (hF.mono (G := SgB g v0 v1 v2) (fun j _ e => .inr (.inr (.inr e)))).trans (G := fun j => j = g) hF2 (fun j e => .inl (.inl e))
  · rintro j (e | e | e | e)
    · exact .inl (.inl e)
    · exact .inl (.inr (.inl e))
    · exact .inl (.inr (.inr (.inl e)))
    · rcases hbk j e with q | q
      · exact .inl (.inr (.inr (.inr q)))
      · exact .inr q
theorem Sg.cells (h : Sg w B g v0 v1 v2 l bs es) : w.cell? ⟨g, 0, none⟩ = some v0 ∧ w.cell? ⟨g, 1, none⟩ = some v1 ∧ w.cell? ⟨g, 2, none⟩ = some v2 := by
  refine ⟨?_, ?_, ?_⟩ <;> · rw [Go.Joins.cell_of_block h.bk]; rfl
theorem Sg.free (h : Sg w B g v0 v1 v2 l bs es) (i : Nat) : w.frozen? ⟨g, i, none⟩ = false := Go.Joins.unfrozen_of_block h.bk i
end

section
variable {w : World} {B g : Nat} {v0 v1 v2 : Value} {l : List Nat} {bs es : List Int}
set_option maxRecDepth 100000 in
set_option maxHeartbeats 4000000 in
theorem add_any (h : Sg w B g v0 v1 v2 l bs es) (hB : B ≤ w.heap.size) (hl : l.length < 1000000) (hbl : bs.length < 1000000) (hel : es.length < 1000000) (x : Nat) (b e0 : Int) :
    Calls Tryd.prog 98 #[.pointer (some ⟨g, 0, none⟩), .int .i64 (x : Int), .int .u64 b, .int .u64 e0] w fun e w' => e = .returned (.tuple #[]) ∧ ∃ u0 u1 u2, Sg w' B g u0 u1 u2 (l ++ [x]) (bs ++ [b]) (es ++ [e0]) ∧ Fr (SgB g v0 v1 v2) w w' ∧ ∀ j, SgB g u0 u1 u2 j → SgB g v0 v1 v2 j ∨ w.heap.size ≤ j := by
  obtain ⟨i0, hi0, z0, z1, z2⟩ := info_parts infoH
  obtain ⟨k0, hk0, y0, y1, y2⟩ := info_parts infoUv
  have hgl := h.lt
  obtain ⟨c0, c1, c2⟩ := h.cells
  have fz := h.free
  have HOB := hide2 hB
  have H0 := hide2 h
  obtain ⟨a0, p0, ev0⟩ := h.r0.form
  obtain ⟨a1, p1, ev1⟩ := h.r1.form
  obtain ⟨a2, p2, ev2⟩ := h.r2.form
  subst ev0 ev1 ev2
  clear h
  go_enter Tryd.func98, Tryd.ntmps98
  have hn0 := hcell_new w (.int .i64 (x : Int)) 3
  have HN0 := hide2 hn0
  clear hn0
  have hO0 : w.ownsRow B 3 1 (Value.slice a0 l.length p0) l.length (l.map nv) := H0.out.r0
  have HO0 := hide2 hO0
  clear hO0
  go_wp2_with (at_builtin; refine Hid.out ?_)
  refine hide2 ?_
  refine wpList_append_own_at _ rfl _ _ 29 rfl B 3 i0 (.int .i64 0) 1 8 Tryd.underlying29 hi0 z0 z1 z2 rfl (by decide) (Value.slice a0 l.length p0) _ _ rfl (World.ownsRow.alloc HO0.out _) ⟨w.heap.size, 0, none⟩ 1 1 [.int .i64 (x : Int)] rfl rfl HN0.out (by simp [Value.oneCell']) (by unfold maxLen; omega) (by omega) (by have := HOB.out; simp; omega) ?_
  intro u0 x0 hown4 hgrow4 hat4 hb4
  obtain ⟨gt0, cp0, eu0⟩ := hrow_succ hown4
  have hFg : Fr (fun j => (Value.slice a0 l.length p0).ownBlock = some j) w x0 := ((Fr.refl (fun j => (Value.slice a0 l.length p0).ownBlock = some j) w).alloc (.cells #[.int .i64 (x : Int)] 3)).trans (Fr.grown hgrow4 (fun j e => e)) (fun j e => .inl e)
  have hr4 : Hr x0 B u0 (l ++ [x]) := by
    unfold Hr
    rw [List.length_append, List.length_singleton, List.map_append]
    exact hown4
  have hP := H0.out.put0 hFg hr4 (fun j e => by
    rcases hb4 with e5 | e5
    · exact .inl (by rw [← e5]; exact e)
    · right
      rw [e5] at e
      simp at e
      omega)
  have hbk4 := (hFg.block g H0.out.lt H0.out.n0).trans H0.out.bk
  have hx4 : g < x0.heap.size := (Array.getElem?_eq_some_iff.1 hbk4).1
  have y40 : x0.cell? ⟨g, 0, none⟩ = some (Value.slice a0 l.length p0) := by rw [Go.Joins.cell_of_block hbk4]; rfl
  have y41 : x0.cell? ⟨g, 1, none⟩ = some (Value.slice a1 bs.length p1) := by rw [Go.Joins.cell_of_block hbk4]; rfl
  have y42 : x0.cell? ⟨g, 2, none⟩ = some (Value.slice a2 es.length p2) := by rw [Go.Joins.cell_of_block hbk4]; rfl
  have fz5 : ∀ i, x0.frozen? ⟨g, i, none⟩ = false := fun i => Go.Joins.unfrozen_of_block hbk4 i
  have fz4 : x0.frozen? ⟨g, 0, none⟩ = false := Go.Joins.unfrozen_of_block hbk4 0
  clear hown4 hgrow4 hat4 hb4 hFg hr4 hbk4 HN0 HO0
  obtain ⟨hS, hF, hJ⟩ := hP
  obtain ⟨w1, hw1⟩ : ∃ q, q = x0.setCell ⟨g, 0, none⟩ u0 := ⟨_, rfl⟩
  rw [← hw1] at hS hF
  have HF0 := hide2 hF
  have HJ0 := hide2 hJ
  have H1 := hide2 hS
  have hs1 := hF.size
  have HS1 : Hid (w.heap.size ≤ w1.heap.size) := hide2 (by omega)
  clear hF hJ hS c0 c1 c2 fz hgl
  subst eu0
  go_frame
  try rw [← hw1]
  have hgl := H1.out.lt
  obtain ⟨c0, c1, c2⟩ := H1.out.cells
  have fz := H1.out.free
  have hn1 := hcell_new w1 (.int .u64 b) 54
  have hws1 : w1.heap.size = x0.heap.size := by rw [hw1]; simp [World.setCell]
  rw [hws1] at hn1
  have HN1 := hide2 hn1
  clear hn1
  have hO1 : w1.ownsRow B 54 1 (Value.slice a1 bs.length p1) bs.length (bs.map uv) := H1.out.r1
  have HO1 := hide2 hO1
  clear hO1
  go_wp2_with (at_builtin; refine Hid.out ?_)
  refine hide2 ?_
  rw [← hw1]
  refine wpList_append_own_at _ rfl _ _ 23 rfl B 54 k0 (.int .u64 0) 1 8 Tryd.underlying23 hk0 y0 y1 y2 rfl (by decide) (Value.slice a1 bs.length p1) _ _ rfl (World.ownsRow.alloc HO1.out _) ⟨x0.heap.size, 0, none⟩ 1 1 [.int .u64 b] rfl rfl HN1.out (by simp [Value.oneCell']) (by unfold maxLen; omega) (by omega) (by have := HOB.out; have := HS1.out; simp; omega) ?_
  intro u1 x1 hown4 hgrow4 hat4 hb4
  obtain ⟨gt1, cp1, eu1⟩ := hrow_succ hown4
  have hFg : Fr (fun j => (Value.slice a1 bs.length p1).ownBlock = some j) w1 x1 := ((Fr.refl (fun j => (Value.slice a1 bs.length p1).ownBlock = some j) w1).alloc (.cells #[.int .u64 b] 54)).trans (Fr.grown hgrow4 (fun j e => e)) (fun j e => .inl e)
  have hr4 : Ur x1 B u1 (bs ++ [b]) := by
    unfold Ur
    rw [List.length_append, List.length_singleton, List.map_append]
    exact hown4
  have hP := H1.out.put1 hFg hr4 (fun j e => by
    rcases hb4 with e5 | e5
    · exact .inl (by rw [← e5]; exact e)
    · right
      rw [e5] at e
      simp at e
      omega)
  have hbk4 := (hFg.block g H1.out.lt H1.out.n1).trans H1.out.bk
  have hx4 : g < x1.heap.size := (Array.getElem?_eq_some_iff.1 hbk4).1
  have y40 : x1.cell? ⟨g, 0, none⟩ = some (Value.slice (some ⟨gt0, 0, none⟩) (l.length + 1) cp0) := by rw [Go.Joins.cell_of_block hbk4]; rfl
  have y41 : x1.cell? ⟨g, 1, none⟩ = some (Value.slice a1 bs.length p1) := by rw [Go.Joins.cell_of_block hbk4]; rfl
  have y42 : x1.cell? ⟨g, 2, none⟩ = some (Value.slice a2 es.length p2) := by rw [Go.Joins.cell_of_block hbk4]; rfl
  have fz5 : ∀ i, x1.frozen? ⟨g, i, none⟩ = false := fun i => Go.Joins.unfrozen_of_block hbk4 i
  have fz4 : x1.frozen? ⟨g, 1, none⟩ = false := Go.Joins.unfrozen_of_block hbk4 1
  clear hown4 hgrow4 hat4 hb4 hFg hr4 hbk4 HN1 HO1
  obtain ⟨hS, hF, hJ⟩ := hP
  obtain ⟨w2, hw2⟩ : ∃ q, q = x1.setCell ⟨g, 1, none⟩ u1 := ⟨_, rfl⟩
  rw [← hw2] at hS hF
  have HF1 := hide2 hF
  have HJ1 := hide2 hJ
  have H2 := hide2 hS
  have hs2 := hF.size
  have HS2 : Hid (w.heap.size ≤ w2.heap.size) := hide2 (by have := HS1.out; omega)
  clear hF hJ hS c0 c1 c2 fz hgl
  subst eu1
  go_frame
  try rw [← hw2]
  have hgl := H2.out.lt
  obtain ⟨c0, c1, c2⟩ := H2.out.cells
  have fz := H2.out.free
  have hn2 := hcell_new w2 (.int .u64 e0) 54
  have hws2 : w2.heap.size = x1.heap.size := by rw [hw2]; simp [World.setCell]
  rw [hws2] at hn2
  have HN2 := hide2 hn2
  clear hn2
  have hO2 : w2.ownsRow B 54 1 (Value.slice a2 es.length p2) es.length (es.map uv) := H2.out.r2
  have HO2 := hide2 hO2
  clear hO2
  go_wp2_with (at_builtin; refine Hid.out ?_)
  refine hide2 ?_
  rw [← hw2]
  refine wpList_append_own_at _ rfl _ _ 23 rfl B 54 k0 (.int .u64 0) 1 8 Tryd.underlying23 hk0 y0 y1 y2 rfl (by decide) (Value.slice a2 es.length p2) _ _ rfl (World.ownsRow.alloc HO2.out _) ⟨x1.heap.size, 0, none⟩ 1 1 [.int .u64 e0] rfl rfl HN2.out (by simp [Value.oneCell']) (by unfold maxLen; omega) (by omega) (by have := HOB.out; have := HS2.out; simp; omega) ?_
  intro u2 x2 hown4 hgrow4 hat4 hb4
  obtain ⟨gt2, cp2, eu2⟩ := hrow_succ hown4
  have hFg : Fr (fun j => (Value.slice a2 es.length p2).ownBlock = some j) w2 x2 := ((Fr.refl (fun j => (Value.slice a2 es.length p2).ownBlock = some j) w2).alloc (.cells #[.int .u64 e0] 54)).trans (Fr.grown hgrow4 (fun j e => e)) (fun j e => .inl e)
  have hr4 : Ur x2 B u2 (es ++ [e0]) := by
    unfold Ur
    rw [List.length_append, List.length_singleton, List.map_append]
    exact hown4
  have hP := H2.out.put2 hFg hr4 (fun j e => by
    rcases hb4 with e5 | e5
    · exact .inl (by rw [← e5]; exact e)
    · right
      rw [e5] at e
      simp at e
      omega)
  have hbk4 := (hFg.block g H2.out.lt H2.out.n2).trans H2.out.bk
  have hx4 : g < x2.heap.size := (Array.getElem?_eq_some_iff.1 hbk4).1
  have y40 : x2.cell? ⟨g, 0, none⟩ = some (Value.slice (some ⟨gt0, 0, none⟩) (l.length + 1) cp0) := by rw [Go.Joins.cell_of_block hbk4]; rfl
  have y41 : x2.cell? ⟨g, 1, none⟩ = some (Value.slice (some ⟨gt1, 0, none⟩) (bs.length + 1) cp1) := by rw [Go.Joins.cell_of_block hbk4]; rfl
  have y42 : x2.cell? ⟨g, 2, none⟩ = some (Value.slice a2 es.length p2) := by rw [Go.Joins.cell_of_block hbk4]; rfl
  have fz5 : ∀ i, x2.frozen? ⟨g, i, none⟩ = false := fun i => Go.Joins.unfrozen_of_block hbk4 i
  have fz4 : x2.frozen? ⟨g, 2, none⟩ = false := Go.Joins.unfrozen_of_block hbk4 2
  clear hown4 hgrow4 hat4 hb4 hFg hr4 hbk4 HN2 HO2
  obtain ⟨hS, hF, hJ⟩ := hP
  obtain ⟨w3, hw3⟩ : ∃ q, q = x2.setCell ⟨g, 2, none⟩ u2 := ⟨_, rfl⟩
  rw [← hw3] at hS hF
  have HF2 := hide2 hF
  have HJ2 := hide2 hJ
  have H3 := hide2 hS
  have hs3 := hF.size
  have HS3 : Hid (w.heap.size ≤ w3.heap.size) := hide2 (by have := HS2.out; omega)
  clear hF hJ hS c0 c1 c2 fz hgl
  subst eu2
  go_frame
  go_wp2
  try rw [← hw3]
  go_end0
  refine ⟨rfl, _, _, _, H3.out, ?_, ?_⟩
  · exact (HF0.out.trans HF1.out (fun j e => HJ0.out j e)).trans HF2.out (fun j e => by
      rcases HJ1.out j e with q | q
      · exact HJ0.out j q
      · exact .inr (by omega))
  · intro j e
    rcases HJ2.out j e with q | q
    · rcases HJ1.out j q with q | q
      · exact HJ0.out j q
      · exact .inr (by omega)
    · exact .inr (by omega)
end
end

section
open Go.RowKit Go.Maps

section
variable {w w' : World} {K : Nat → Prop} {sb d z M u : Nat} {A : Stt}
theorem sbegin_any (h : Rp w K sb d z M A u) {n : Nat} (hn : A.lv 1 n = true) (hM : M < 3800000000000000000) :
    Calls Tryd.prog 47 #[.pointer (some ⟨sb, 0, none⟩), .int .i64 (n : Int)] w fun e w' => e = .returned (.tuple #[.int .u64 (A.va 2 n), .int .i64 0]) ∧ Aft w w' K sb d z (M + 1) A u := by
  obtain ⟨m, hm, hr⟩ := h.re
  refine (beginE hr hn (by omega)).mono ?_
  rintro e w' ⟨rfl, K', q1, q2, q3⟩
  exact ⟨rfl, K', q1.rp (by omega), q2, q3⟩
theorem lvI_nat {c : Nat} {n : Int} (h : lvI A c n = true) : n = (n.toNat : Int) ∧ A.lv c n.toNat = true := by
  unfold lvI at h
  simp at h
  exact ⟨by omega, h.2⟩
theorem lvI_no {c : Nat} {n : Int} (h : lvI A c n = false) : n < 0 ∨ A.lv c n.toNat = false := by
  unfold lvI at h
  by_cases q : 0 ≤ n
  · simp [q] at h; exact .inr h
  · exact .inl (by omega)
theorem chainN_any (h : Rp w K sb d z M A u) {n : Int} (hn : i64ok n) {l : List Nat} (hc : ChN A n l) (hll : l.length ≤ 1000000) (hM : M < 3800000000000000000) :
    Calls Tryd.prog 46 #[.pointer (some ⟨sb, 0, none⟩), .int .i64 n] w fun e w' => ∃ v, e = .returned v ∧ ChainR w w' K sb d z (M + 2 + l.length) A u l v := by
  rcases hc with ⟨h1, h2⟩ | ⟨h1, rfl⟩
  · obtain ⟨e, h3⟩ := lvI_nat h1
    obtain ⟨k, hk⟩ : ∃ k : Nat, k = n.toNat := ⟨_, rfl⟩
    rw [← hk] at e h2 h3
    rw [e]
    exact chain_any h h3 h2 hll hM
  · refine (Chain_out h hn.1 hn.2 (lvI_no h1)).mono ?_
    rintro e w' ⟨rfl, hb⟩
    exact ⟨_, rfl, ⟨rfl, .inl ⟨rfl, rfl⟩⟩, K, (h.up (by simp)).below hb, fun _ _ => Iff.rfl, Fr.below hb, fun j e => by cases e⟩
/-- What look tells, and leaves. -/
def LookR (w w' : World) (K : Nat → Prop) (sb d z M : Nat) (A : Stt) (u : Nat) (l : List Nat) (v : Value) : Prop :=
  ∃ u0 u1 u2, v = .agg #[u0, u1, u2] ∧ Hr w' w.heap.size u0 l ∧ Ur w' w.heap.size u1 (l.map (A.va 2)) ∧ Ur w' w.heap.size u2 (l.map (A.va 3)) ∧
    ∃ K', Rp w' K' sb d z M A u ∧ (∀ j, j < w.heap.size → (K' j ↔ K j)) ∧ Fr K w w' ∧ ∀ j, (u0.ownBlock = some j ∨ u1.ownBlock = some j ∨ u2.ownBlock = some j) → ¬ K' j

set_option maxRecDepth 100000 in
set_option maxHeartbeats 4000000 in
theorem look_any (h : Rp w K sb d z M A u) {n : Int} (hn : i64ok n) {l : List Nat} (hc : ChN A n l) (hll : l.length < 1000000) (hM : M < 3700000000000000000) :
    Calls Tryd.prog 89 #[.pointer (some ⟨sb, 0, none⟩), .int .i64 n] w fun e w' => ∃ v, e = .returned v ∧ LookR w w' K sb d z (M + 2 + 3 * l.length) A u l v := by
  obtain ⟨wb, hwb⟩ : ∃ q, q = (w.alloc (.cells #[.slice none 0 0, .slice none 0 0, .slice none 0 0] 136)).alloc (.cells #[.slice none 0 0, .slice none 0 0, .slice none 0 0] 136) := ⟨_, rfl⟩
  have hB : Below w.heap.size w wb := by rw [hwb]; exact ((Below.refl _ w).alloc (Nat.le_refl _) _).alloc (by simp) _
  have hsz : wb.heap.size = w.heap.size + 2 := by rw [hwb]; simp
  have bR : wb.heap[w.heap.size]? = some (.cells #[.slice none 0 0, .slice none 0 0, .slice none 0 0] 136 (0, 0)) := by
    rw [hwb, Below.heap_alloc _ _ _ (by simp)]; exact heap_alloc_new w _
  have bG : wb.heap[w.heap.size + 1]? = some (.cells #[.slice none 0 0, .slice none 0 0, .slice none 0 0] 136 (0, 0)) := by
    have := heap_alloc_new (w.alloc (.cells #[.slice none 0 0, .slice none 0 0, .slice none 0 0] 136)) (.cells #[.slice none 0 0, .slice none 0 0, .slice none 0 0] 136)
    rw [hwb]; simpa using this
  have hS : Sg wb w.heap.size (w.heap.size + 1) (.slice none 0 0) (.slice none 0 0) (.slice none 0 0) [] [] [] :=
    ⟨bG, by omega, ⟨rfl, .inl ⟨rfl, rfl⟩⟩, ⟨rfl, .inl ⟨rfl, rfl⟩⟩, ⟨rfl, .inl ⟨rfl, rfl⟩⟩, (by intro e; cases e), (by intro e; cases e), (by intro e; cases e), (by intro j e; cases e), (by intro j e; cases e), (by intro j e; cases e)⟩
  have hkl := h.kl
  have hz0 := h.tab.1
  have HC := hide2 (chainN_any (h.below hB) hn hc (by omega) (by omega))
  have HB := hide2 hB
  have HS := hide2 hS
  have HR := hide2 bR
  have HKL := hide2 hkl
  have hlive : ∀ x ∈ l, A.lv 1 x = true := by
    rcases hc with ⟨_, q⟩ | ⟨_, q⟩
    · exact q.live
    · rw [q]; intro x hx; cases hx
  have HLV := hide2 hlive
  clear h hc hB hS bR bG hkl hlive
  go_enter Tryd.func89, Tryd.ntmps89
  go_wp2_with fail
  rw [← hwb]
  refine HC.out.mono ?_
  rintro e w1 ⟨v, rfl, hHr, K1, hR1, hk1, hF1, hv1⟩
  obtain ⟨ao, cp, ev⟩ := hHr.form
  subst ev
  have hs1 := hF1.size
  have F0 : Fr K w w1 := (Fr.below (F := K) HB.out).trans hF1 (fun j e => .inl e)
  have HS1 : Hid (Sg w1 w.heap.size (w.heap.size + 1) (.slice none 0 0) (.slice none 0 0) (.slice none 0 0) [] [] []) := hide2 (HS.out.keep hF1 (fun j e q => by
    have := HS.out.ge e
    have := HKL.out j q
    omega))
  have HR1 : Hid (w1.heap[w.heap.size]? = some (.cells #[.slice none 0 0, .slice none 0 0, .slice none 0 0] 136 (0, 0))) := hide2 ((hF1.block _ (by omega) (fun q => by have := HKL.out _ q; omega)).trans HR.out)
  have HH := hide2 hHr
  have HP1 := hide2 hR1
  have HK1 : Hid (∀ j, j < wb.heap.size → (K1 j ↔ K j)) := hide2 hk1
  have HV1 := hide2 hv1
  have HF0 := hide2 F0
  have HNK : Hid (∀ j, w.heap.size ≤ j → j < w.heap.size + 2 → ¬ K1 j) := hide2 (fun j a b q => by
    have := HKL.out j ((hk1 j (by omega)).1 q)
    omega)
  clear HC HS HR hHr hR1 hk1 hv1 hF1 F0 HB
  go_wp2
  go_loopw [16] (fun a wr => ∃ (k : Nat) (K1 : Nat → Prop) (u0 u1 u2 : Value), k ≤ l.length ∧ a = .int .i64 k ∧ Hid (Sg wr w.heap.size (w.heap.size + 1) u0 u1 u2 (l.take k) ((l.take k).map (A.va 2)) ((l.take k).map (A.va 3))) ∧ Hid (Rp wr K1 sb d z (M + 2 + l.length + 2 * k) A u) ∧ Hid (∀ j, j < w.heap.size → (K1 j ↔ K j)) ∧ Hid (Fr K w wr) ∧ Hid (∀ j, SgB (w.heap.size + 1) u0 u1 u2 j → ¬ K1 j) ∧ Hid (Hr wr wb.heap.size (.slice ao l.length cp) l) ∧ Hid (∀ j, (Value.slice ao l.length cp).ownBlock = some j → ¬ K1 j ∧ ¬ SgB (w.heap.size + 1) u0 u1 u2 j) ∧ Hid (wr.heap[w.heap.size]? = some (.cells #[.slice none 0 0, .slice none 0 0, .slice none 0 0] 136 (0, 0)) ∧ ¬ K1 w.heap.size ∧ ¬ SgB (w.heap.size + 1) u0 u1 u2 w.heap.size)) (fun a _ => l.length - (intOf a).toNat)
  case atStart =>
    refine ⟨0, K1, .slice none 0 0, .slice none 0 0, .slice none 0 0, by omega, rfl, HS1, HP1, hide2 (fun j hj => HK1.out j (by omega)), HF0, hide2 ?_, HH, hide2 ?_, hide2 ⟨HR1.out, HNK.out _ (by omega) (by omega), ?_⟩⟩
    · rintro j (e | e | e | e)
      · rw [e]; exact HNK.out _ (by omega) (by omega)
      · cases e
      · cases e
      · cases e
    · intro j e
      refine ⟨HV1.out j e, ?_⟩
      have := (World.ownsRow.lt HH.out j e).1
      rintro (e | e | e | e)
      · omega
      · cases e
      · cases e
      · cases e
    · rintro (e | e | e | e)
      · omega
      · cases e
      · cases e
      · cases e
  case round =>
    clear HS1 HP1 HK1 HF0 HH HV1 HR1 HNK hs1
    obtain ⟨k, K2, u0, u1, u2, hk, rfl, S, P, HK, HF, HSK, H, HV, R⟩ := hrel
    have hsz2 := HF.out.size
    by_cases hkl : k < l.length
    · obtain ⟨g0, cap0, ev, q0⟩ := H.out.at hkl
      have hmem : l.getD k 0 ∈ l := by rw [List.getD_eq_getElem?_getD, List.getElem?_eq_getElem hkl]; exact List.getElem_mem hkl
      have hlv := HLV.out _ hmem
      have HTK : Hid (l.take (k + 1) = l.take k ++ [l.getD k 0]) := hide2 (take_snoc (by rw [List.getD_eq_getElem?_getD, List.getElem?_eq_getElem hkl]; rfl))
      obtain ⟨x, hx⟩ : ∃ x, x = l.getD k 0 := ⟨_, rfl⟩
      rw [← hx] at q0 hlv HTK
      injection ev with e1 e2 e3
      subst e1 e3
      have hkl2 : (k : Int) < (l.length : Int) := by omega
      have hg0 : g0 < wr.heap.size := (World.ownsRow.lt H.out g0 rfl).2
      have HBG := hide2 (sbegin_any P.out hlv (by omega))
      have HLX := hide2 hlv
      clear hmem hx hlv
      go_wp2_with fail
      refine HBG.out.mono ?_
      rintro e w2 ⟨rfl, K3, hR3, hk3, hF3⟩
      have hs3 := hF3.size
      have HP3 := hide2 hR3
      have HK3 : Hid (∀ j, j < wr.heap.size → (K3 j ↔ K2 j)) := hide2 hk3
      have HF3 : Hid (Fr K2 wr w2) := hide2 hF3
      have HEN := hide2 (end_any hR3 HLX.out (by omega))
      clear HBG hR3 hk3 hF3 q0
      go_wp2_with fail
      refine HEN.out.mono ?_
      rintro e w3 ⟨rfl, K4, hR4, hk4, hF4⟩
      have hs4 := hF4.size
      have hS4 : Sg w3 w.heap.size (w.heap.size + 1) u0 u1 u2 (l.take k) ((l.take k).map (A.va 2)) ((l.take k).map (A.va 3)) := (S.out.keep HF3.out HSK.out).keep hF4 (fun j e q => HSK.out j e ((HK3.out j (S.out.ge e).2).1 q))
      have hSB : ∀ j, SgB (w.heap.size + 1) u0 u1 u2 j → ¬ K4 j ∧ j < wr.heap.size := fun j e => ⟨fun q => HSK.out j e ((HK3.out j (S.out.ge e).2).1 ((hk4 j (by have := (S.out.ge e).2; omega)).1 q)), (S.out.ge e).2⟩
      have HAD := hide2 (add_any hS4 (by omega) (by simp; omega) (by simp; omega) (by simp; omega) x (A.va 2 x) (A.va 3 x))
      have hkk : ∀ j, j < wr.heap.size → (K4 j ↔ K2 j) := fun j hj => (hk4 j (by omega)).trans (HK3.out j hj)
      have HF4 : Hid (Fr K2 wr w3) := hide2 (HF3.out.trans hF4 (fun j e => by
        rcases Nat.lt_or_ge j wr.heap.size with q | q
        · exact .inl ((HK3.out j q).1 e)
        · exact .inr q))
      have HP4 := hide2 hR4
      have HKK := hide2 hkk
      have HSB := hide2 hSB
      clear HEN hR4 hk4 hF4 hS4 hSB hkk HP3 HK3 HF3
      go_wp2_with fail
      refine HAD.out.mono ?_
      rintro e w4 ⟨rfl, y0, y1, y2, hS5, hF5, hJ5⟩
      have hs5 := hF5.size
      have HS5 : Hid (Sg w4 w.heap.size (w.heap.size + 1) y0 y1 y2 (l.take (k + 1)) ((l.take (k + 1)).map (A.va 2)) ((l.take (k + 1)).map (A.va 3))) := hide2 (by rw [HTK.out]; simpa using hS5)
      have HF5 := hide2 hF5
      have HJ5 := hide2 hJ5
      clear HAD hS5 hF5 hJ5
      go_wp2
      go_roundw
      case rel =>
        have hnk : ∀ j, K4 j → ¬ SgB (w.heap.size + 1) u0 u1 u2 j := fun j q e => (HSB.out j e).1 q
        refine ⟨k + 1, K4, y0, y1, y2, by omega, by go_num, HS5, hide2 ((HP4.out.keep HF5.out hnk (fun e => by have := (S.out.ge e).1; omega)).up (by omega)), hide2 (fun j hj => (HKK.out j (by omega)).trans (HK.out j hj)), hide2 ?_, hide2 ?_, hide2 ?_, hide2 ?_, hide2 ⟨?_, ?_, ?_⟩⟩
        · refine (HF.out.trans HF4.out (fun j e => ?_)).trans HF5.out (fun j e => .inr ((S.out.ge e).1))
          rcases Nat.lt_or_ge j w.heap.size with q | q
          · exact .inl ((HK.out j q).1 e)
          · exact .inr q
        · intro j e q
          rcases HJ5.out j e with e1 | e1
          · exact (HSB.out j e1).1 q
          · have := HP4.out.kl j q; omega
        · exact (H.out.fr HF4.out (fun j e => (HV.out j e).1)).fr HF5.out (fun j e => (HV.out j e).2)
        · intro j e
          have hj := (World.ownsRow.lt H.out j e).2
          refine ⟨fun q => (HV.out j e).1 ((HKK.out j hj).1 q), fun q => ?_⟩
          rcases HJ5.out j q with e1 | e1
          · exact (HV.out j e).2 e1
          · omega
        · have h1 := R.out.1
          have hl1 : w.heap.size < wr.heap.size := (Array.getElem?_eq_some_iff.1 h1).1
          exact (HF5.out.block _ (by omega) R.out.2.2).trans ((HF4.out.block _ hl1 R.out.2.1).trans h1)
        · intro q
          have hl1 : w.heap.size < wr.heap.size := (Array.getElem?_eq_some_iff.1 R.out.1).1
          exact R.out.2.1 ((HKK.out _ hl1).1 q)
        · intro q
          have hl1 : w.heap.size < wr.heap.size := (Array.getElem?_eq_some_iff.1 R.out.1).1
          rcases HJ5.out _ q with e1 | e1
          · exact R.out.2.2 e1
          · omega
      case measure => simp [intOf]; omega
    · obtain rfl : k = l.length := by omega
      have hk2 : ¬ ((l.length : Int) < (l.length : Int)) := by omega
      obtain ⟨c0, c1, c2⟩ := S.out.cells
      have hgl := S.out.lt
      have hbr := R.out.1
      have r0 : wr.cell? ⟨w.heap.size, 0, none⟩ = some (.slice none 0 0) := by rw [Go.Joins.cell_of_block hbr]; rfl
      have r1 : wr.cell? ⟨w.heap.size, 1, none⟩ = some (.slice none 0 0) := by rw [Go.Joins.cell_of_block hbr]; rfl
      have r2 : wr.cell? ⟨w.heap.size, 2, none⟩ = some (.slice none 0 0) := by rw [Go.Joins.cell_of_block hbr]; rfl
      have fr : ∀ i, wr.frozen? ⟨w.heap.size, i, none⟩ = false := fun i => Go.Joins.unfrozen_of_block hbr i
      have hrl : w.heap.size < wr.heap.size := (Array.getElem?_eq_some_iff.1 hbr).1
      have hne : w.heap.size ≠ w.heap.size + 1 := by omega
      obtain ⟨b0, p0, ev0⟩ := S.out.r0.form
      obtain ⟨b1, p1, ev1⟩ := S.out.r1.form
      obtain ⟨b2, p2, ev2⟩ := S.out.r2.form
      have HALL : Hid (∀ y0 y1 y2 : Value, u0 = y0 → u1 = y1 → u2 = y2 → (((wr.setCell ⟨w.heap.size, 0, none⟩ y0).setCell ⟨w.heap.size, 1, none⟩ y1).setCell ⟨w.heap.size, 2, none⟩ y2).heap[w.heap.size]? = some (.cells #[y0, y1, y2] 136 (0, 0)) ∧ LookR w (((wr.setCell ⟨w.heap.size, 0, none⟩ y0).setCell ⟨w.heap.size, 1, none⟩ y1).setCell ⟨w.heap.size, 2, none⟩ y2) K sb d z (M + 2 + 3 * l.length) A u l (.agg #[y0, y1, y2])) := hide2 (by
        rintro y0 y1 y2 rfl rfl rfl
        have hF2 : Fr (fun j => j = w.heap.size) wr (((wr.setCell ⟨w.heap.size, 0, none⟩ u0).setCell ⟨w.heap.size, 1, none⟩ u1).setCell ⟨w.heap.size, 2, none⟩ u2) :=
          Fr.setCell (p := ⟨w.heap.size, 2, none⟩) (Fr.setCell (p := ⟨w.heap.size, 1, none⟩) (Fr.setCell (p := ⟨w.heap.size, 0, none⟩) (Fr.refl (fun j => j = w.heap.size) wr) (.inl rfl) _) (.inl rfl) _) (.inl rfl) _
        have b1 := Go.Joins.block_setCell (v := u0) (i := 0) R.out.1
        have b2 := Go.Joins.block_setCell (v := u1) (i := 1) b1
        have b3 := Go.Joins.block_setCell (v := u2) (i := 2) b2
        have hnr := R.out.2.2
        refine ⟨by rw [b3]; rfl, u0, u1, u2, rfl, ?_, ?_, ?_, K2, (P.out.keep hF2 (fun j hj e => R.out.2.1 (e ▸ hj)) (fun e => by omega)).up (by omega), HK.out, HF.out.trans hF2 (fun j e => .inr (by omega)), fun j e => HSK.out j (.inr e)⟩
        · have q := S.out.r0
          rw [List.take_length] at q
          exact q.fr hF2 (fun j e z => hnr (.inr (.inl (z ▸ e))))
        · have q := S.out.r1
          rw [List.take_length] at q
          exact q.fr hF2 (fun j e z => hnr (.inr (.inr (.inl (z ▸ e)))))
        · have q := S.out.r2
          rw [List.take_length] at q
          exact q.fr hF2 (fun j e z => hnr (.inr (.inr (.inr (z ▸ e))))))
      have hlen : (l.take l.length).length = l.length := by simp
      have hlen1 : ((l.take l.length).map (A.va 2)).length = l.length := by simp
      have hlen2 : ((l.take l.length).map (A.va 3)).length = l.length := by simp
      rw [hlen] at ev0
      rw [hlen1] at ev1
      rw [hlen2] at ev2
      have HA := HALL.out _ _ _ ev0 ev1 ev2
      have HA1 := hide2 HA.1
      have HA2 := hide2 HA.2
      clear hbr HALL S P HK HF HSK H HV R HA hlen hlen1 hlen2
      subst ev0 ev1 ev2
      go_wp2
      exact bodyPost_ret (v := .agg #[.slice b0 l.length p0, .slice b1 l.length p1, .slice b2 l.length p2]) (results_cell_row (p := 4) (ty := 136) rfl _ _ w.heap.size 136 #[.slice b0 l.length p0, .slice b1 l.length p1, .slice b2 l.length p2] (0, 0) _ rfl HA1.out Tryd.underlying136 rfl (by kernel_rfl)) rfl ⟨_, rfl, HA2.out⟩
end
end

section
open Go.RowKit Go.Maps

theorem zip_pr (A : Stt) : ∀ l : List Nat, (l.map (A.va 2)).zip (l.map (A.va 3)) = l.map (pr A)
  | [] => rfl
  | v :: l => by simp only [List.map_cons, List.zip_cons_cons, zip_pr A l]; rfl
section
variable {w w' : World} {B : Nat}
set_option maxRecDepth 100000 in
set_option maxHeartbeats 2000000 in
theorem split_some {g cap len k : Nat} {mark : Int} {bo eo : Option Addr} {cb ce : Nat} {bs es : List Int} (hb : Seq 1 uh w bo len cb bs) (he : Seq 1 uh w eo len ce es) (hb0 : ∀ x ∈ bs, U64 x) (he0 : ∀ x ∈ es, U64 x) (hk : kpz mark bs es = k) (hkl : k ≤ len) (hlc : len ≤ cap) (hcm : cap ≤ maxLen) :
    Calls Tryd.prog 90 #[.agg #[.slice (some ⟨g, 0, none⟩) len cap, .slice bo len cb, .slice eo len ce], .int .i64 mark] w fun e w' => ∃ lo lc, e = .returned (.tuple #[.slice (some ⟨g, 0, none⟩) k cap, .slice lo (len - k) lc]) ∧ (k < len → lo = some ⟨g, k, none⟩) ∧ Below w.heap.size w w' := by
  obtain ⟨wb, hwb⟩ : ∃ q, q = w.alloc (.cells #[.slice (some ⟨g, 0, none⟩) len cap, .slice bo len cb, .slice eo len ce] 136) := ⟨_, rfl⟩
  have hB : Below w.heap.size w wb := by rw [hwb]; exact (Below.refl _ w).alloc (Nat.le_refl _) _
  have bG : wb.heap[w.heap.size]? = some (.cells #[.slice (some ⟨g, 0, none⟩) len cap, .slice bo len cb, .slice eo len ce] 136 (0, 0)) := by rw [hwb]; exact heap_alloc_new w _
  have hsz : wb.heap.size = w.heap.size + 1 := by rw [hwb]; simp
  have HKP := hide2 (skeep_any (mark := mark) (hb.keep hB) (he.keep hB) hb0 he0)
  rw [hk] at HKP
  have HB := hide2 hB
  have HG := hide2 bG
  have c0 : wb.cell? ⟨w.heap.size, 0, none⟩ = some (.slice (some ⟨g, 0, none⟩) len cap) := by rw [Go.Joins.cell_of_block bG]; rfl
  have c1 : wb.cell? ⟨w.heap.size, 1, none⟩ = some (.slice bo len cb) := by rw [Go.Joins.cell_of_block bG]; rfl
  have c2 : wb.cell? ⟨w.heap.size, 2, none⟩ = some (.slice eo len ce) := by rw [Go.Joins.cell_of_block bG]; rfl
  rw [hwb] at c0 c1 c2
  unfold maxLen at hcm
  clear hb he hb0 he0 hB bG hk
  go_enter Tryd.func90, Tryd.ntmps90
  go_wp2_with fail
  rw [← hwb]
  refine HKP.out.mono ?_
  rintro e w1 ⟨rfl, hb1⟩
  have hs1 := hb1.size
  have bG1 := (hb1.block w.heap.size (by omega)).trans HG.out
  have y0 : w1.cell? ⟨w.heap.size, 0, none⟩ = some (.slice (some ⟨g, 0, none⟩) len cap) := by rw [Go.Joins.cell_of_block bG1]; rfl
  have hl1 : w.heap.size < w1.heap.size := by omega
  have HB1 : Hid (Below w.heap.size w w1) := hide2 (HB.out.trans ⟨hb1.os, hb1.tape, hb1.output, hb1.size, fun j hj => hb1.block j (by omega)⟩)
  have k1 : (k : Int) ≤ (len : Int) := by omega
  have k2 : (k : Int) ≤ (cap : Int) := by omega
  clear HKP hb1 bG1 HB HG c0 c1 c2 hwb
  by_cases hkc : k < cap
  · have k3 : (k : Int) < (cap : Int) := by omega
    go_wp2
    go_quiet (fail)
    go_wp2
    go_ret2
    exact ⟨_, _, rfl, fun _ => rfl, bdrew HB1.out _⟩
  · have k3 : k = cap := by omega
    have HZ : Hid (len - k = 0) := hide2 (by omega)
    have k4 : ¬ (k : Int) < (cap : Int) := by omega
    go_wp2
    go_quiet (fail)
    go_wp2
    go_ret2
    exact ⟨some ⟨g, 0, none⟩, 0, by rw [HZ.out]; first | rfl | (rw [k3]; rfl), fun q => by omega, bdrew HB1.out _⟩
set_option maxRecDepth 100000 in
set_option maxHeartbeats 2000000 in
theorem split_none {mark : Int} {bo eo : Option Addr} {cb ce : Nat} (hb : Seq 1 uh w bo 0 cb []) (he : Seq 1 uh w eo 0 ce []) :
    Calls Tryd.prog 90 #[.agg #[.slice none 0 0, .slice bo 0 cb, .slice eo 0 ce], .int .i64 mark] w fun e w' => e = .returned (.tuple #[.slice none 0 0, .slice none 0 0]) ∧ Below w.heap.size w w' := by
  obtain ⟨wb, hwb⟩ : ∃ q, q = w.alloc (.cells #[.slice none 0 0, .slice bo 0 cb, .slice eo 0 ce] 136) := ⟨_, rfl⟩
  have hB : Below w.heap.size w wb := by rw [hwb]; exact (Below.refl _ w).alloc (Nat.le_refl _) _
  have bG : wb.heap[w.heap.size]? = some (.cells #[.slice none 0 0, .slice bo 0 cb, .slice eo 0 ce] 136 (0, 0)) := by rw [hwb]; exact heap_alloc_new w _
  have hsz : wb.heap.size = w.heap.size + 1 := by rw [hwb]; simp
  have HKP := hide2 (skeep_any (mark := mark) (hb.keep hB) (he.keep hB) (by intro x hx; cases hx) (by intro x hx; cases hx))
  have hk : kpz mark [] [] = 0 := rfl
  rw [hk] at HKP
  have HB := hide2 hB
  have HG := hide2 bG
  have c0 : wb.cell? ⟨w.heap.size, 0, none⟩ = some (.slice none 0 0) := by rw [Go.Joins.cell_of_block bG]; rfl
  have c1 : wb.cell? ⟨w.heap.size, 1, none⟩ = some (.slice bo 0 cb) := by rw [Go.Joins.cell_of_block bG]; rfl
  have c2 : wb.cell? ⟨w.heap.size, 2, none⟩ = some (.slice eo 0 ce) := by rw [Go.Joins.cell_of_block bG]; rfl
  rw [hwb] at c0 c1 c2
  clear hB bG hk hb he
  go_enter Tryd.func90, Tryd.ntmps90
  go_wp2_with fail
  rw [← hwb]
  refine HKP.out.mono ?_
  rintro e w1 ⟨rfl, hb1⟩
  have hs1 := hb1.size
  have bG1 := (hb1.block w.heap.size (by omega)).trans HG.out
  have y0 : w1.cell? ⟨w.heap.size, 0, none⟩ = some (.slice none 0 0) := by rw [Go.Joins.cell_of_block bG1]; rfl
  have hl1 : w.heap.size < w1.heap.size := by omega
  have HB1 : Hid (Below w.heap.size w w1) := hide2 (HB.out.trans ⟨hb1.os, hb1.tape, hb1.output, hb1.size, fun j hj => hb1.block j (by omega)⟩)
  clear HKP hb1 bG1 HB HG c0 c1 c2 hwb
  go_wp2
  go_quiet (fail)
  go_wp2
  go_ret2
  exact ⟨rfl, bdrew HB1.out _⟩
end

section
variable {w w' : World} {K : Nat → Prop} {sb d z M u : Nat} {A : Stt}
/-- Both of what split tells of what look has told. -/
theorem split_any {v : Value} {l : List Nat} {mark : Int} (hL : LookR w w' K sb d z M A u l v) (hok : A.ok) (hlv : ∀ x ∈ l, A.lv 1 x = true) :
    Calls Tryd.prog 90 #[v, .int .i64 mark] w' fun e w2 => ∃ so sc lo lc, e = .returned (.tuple #[.slice so (kp mark (l.map (pr A))) sc, .slice lo (l.length - kp mark (l.map (pr A))) lc]) ∧
      (0 < kp mark (l.map (pr A)) → ∃ b off, so = some ⟨b, off, none⟩ ∧ b < w2.heap.size ∧ w2.cell? ⟨b, off + (kp mark (l.map (pr A)) - 1), none⟩ = some (.int .i64 (l.getD (kp mark (l.map (pr A)) - 1) 0 : Nat))) ∧
      (kp mark (l.map (pr A)) = 0 → 0 < l.length → ∃ b off, lo = some ⟨b, off, none⟩ ∧ b < w2.heap.size ∧ w2.cell? ⟨b, off, none⟩ = some (.int .i64 (l.getD 0 0 : Nat))) ∧ Aft w w2 K sb d z M A u := by
  obtain ⟨u0, u1, u2, rfl, h0, h1, h2, K', hR, hk, hF, hn⟩ := hL
  have hkp : kp mark (l.map (pr A)) ≤ l.length := by have := kp_le mark (l.map (pr A)); simpa using this
  obtain ⟨bo, cb, e1, s1⟩ := h1.seq
  obtain ⟨eo, ce, e2, s2⟩ := h2.seq
  rw [List.length_map] at e1 e2 s1 s2
  have w1 : ∀ x ∈ l.map (A.va 2), U64 x := fun x hx => by
    obtain ⟨y, hy, rfl⟩ := List.mem_map.1 hx
    exact hok.bd 2 y (by decide) (hlv y hy)
  have w2 : ∀ x ∈ l.map (A.va 3), U64 x := fun x hx => by
    obtain ⟨y, hy, rfl⟩ := List.mem_map.1 hx
    exact hok.bd 3 y (by decide) (hlv y hy)
  have hkz : kpz mark (l.map (A.va 2)) (l.map (A.va 3)) = kp mark (l.map (pr A)) := by unfold kpz; rw [zip_pr]
  subst e1 e2
  have aft : ∀ w2, Below w'.heap.size w' w2 → Aft w w2 K sb d z M A u := fun w2 hb => ⟨K', hR.below hb, hk, hF.trans (G := fun _ => False) (Fr.below hb) (fun j e => e.elim)⟩
  rcases h0.2 with ⟨rfl, hl0⟩ | ⟨g, cap, cur, rfl, hg, hh, hcap, hmax, hs, ht⟩
  · have hl : l = [] := List.length_eq_zero_iff.1 hl0
    subst hl
    refine (split_none s1 s2).mono ?_
    rintro e w2 ⟨rfl, hb⟩
    exact ⟨_, _, _, _, rfl, fun q => absurd q (by simp [kp]), fun _ q => absurd q (by simp), aft w2 hb⟩
  · refine (split_some (g := g) (cap := cap) s1 s2 w1 w2 hkz hkp hcap hmax).mono ?_
    rintro e w2 ⟨lo, lc, rfl, hlo, hb⟩
    have hgl := (Array.getElem?_eq_some_iff.1 hh).1
    have hs2 := hb.size
    refine ⟨_, _, _, _, rfl, fun q => ⟨g, 0, rfl, by omega, ?_⟩, fun q q2 => ?_, aft w2 hb⟩
    · obtain ⟨g', cap', e, hc⟩ := h0.at (i := kp mark (l.map (pr A)) - 1) (by omega)
      injection e with e _ _
      injection e with e
      injection e with e _ _
      subst e
      rw [Nat.zero_add]
      exact (hb.cell (p := ⟨g, kp mark (l.map (pr A)) - 1, none⟩) hgl).trans hc
    · obtain ⟨g', cap', e, hc⟩ := h0.at (i := 0) q2
      injection e with e _ _
      injection e with e
      injection e with e _ _
      subst e
      rw [q] at hlo
      exact ⟨g, 0, hlo q2, by omega, (hb.cell (p := ⟨g, 0, none⟩) hgl).trans hc⟩

set_option maxRecDepth 100000 in
set_option maxHeartbeats 4000000 in
theorem sweepNode_any (h : Rp w K sb d z M A u) {n : Int} (hn : i64ok n) {l : List Nat} (hc : ChN A n l) (mark : Int) (hll : l.length < 1000000) (hM : M < 3600000000000000000) :
    Calls Tryd.prog 70 #[.pointer (some ⟨sb, 0, none⟩), .int .i64 n, .int .i64 mark] w fun e w' => e = .returned (.int .i64 (goneN mark A l : Nat)) ∧ 3 * goneN mark A l ≤ u ∧ Aft w w' K sb d z (M + 10 + 5 * l.length) (swpA mark A n.toNat l) (u - 3 * goneN mark A l) := by
  have hok := h.ok
  have HLK := hide2 (look_any h hn hc hll (by omega))
  have hlv : ∀ x ∈ l, A.lv 1 x = true := by
    rcases hc with ⟨_, q⟩ | ⟨_, q⟩
    · exact q.live
    · rw [q]; intro x hx; cases hx
  have HSP : Hid (∀ v w', LookR w w' K sb d z (M + 2 + 3 * l.length) A u l v → _) := hide2 (fun v w' q => split_any (mark := mark) q hok hlv)
  have hkp : kp mark (l.map (pr A)) ≤ l.length := by have := kp_le mark (l.map (pr A)); simpa using this
  obtain ⟨k, hk⟩ : ∃ k, k = kp mark (l.map (pr A)) := ⟨_, rfl⟩
  have hgn : goneN mark A l = l.length - k := by unfold goneN; rw [hk]
  rw [hgn]
  rw [← hk] at HSP hkp
  have HOK := hide2 hok
  have HC := hide2 hc
  have HLV := hide2 hlv
  have HK := hide2 hk
  clear h hc hlv hok hgn
  go_enter Tryd.func70, Tryd.ntmps70
  go_wp2_with fail
  refine HLK.out.mono ?_
  rintro e w1 ⟨v, rfl, hL⟩
  have HS := hide2 (HSP.out v w1 hL)
  obtain ⟨u0, u1, u2, ev, -⟩ := hL
  subst ev
  clear HSP HLK hk
  go_wp2_with fail
  refine HS.out.mono ?_
  rintro e w2 ⟨so, sc, lo, lc, rfl, hst, hle, hA⟩
  have HA := hide2 hA
  have HST := hide2 hst
  have HLE := hide2 hle
  clear HS hst hle hA
  by_cases hkl : k = l.length
  · have hz : l.length - k = 0 := by omega
    have e1 : swpA mark A n.toNat l = A := by unfold swpA; rw [if_pos (by rw [← HK.out, hkl])]
    rw [hz]
    have HE := hide2 e1
    have HZ := hide2 hz
    clear e1
    go_wp2
    go_ret
    refine ⟨by rw [HZ.out]; rfl, by rw [HZ.out]; omega, ?_⟩
    rw [HE.out, HZ.out]
    obtain ⟨K', a, b, c⟩ := HA.out
    exact ⟨K', a.up (by omega), b, c⟩
  · have hz : 0 < l.length - k := by omega
    have hz2 : ¬ (l.length - k = 0) := by omega
    have hz3 : ¬ (((l.length - k : Nat) : Int) = 0) := by omega
    obtain ⟨hlvn, hch⟩ : lvI A 0 n = true ∧ Ch A (A.va 0 n.toNat) l := by
      rcases HC.out with q | ⟨_, q⟩
      · exact q
      · rw [q] at hz; simp at hz
    obtain ⟨K2, R2, hk2, hF2⟩ := HA.out
    have HK2 := hide2 hk2
    have HF2 := hide2 hF2
    have HCH := hide2 hch
    clear hk2 hF2 HA HC
    by_cases hk0 : 0 < k
    · obtain ⟨b, off, rfl, hbl, hcell⟩ := HST.out hk0
      have hi : k - 1 < l.length := by omega
      obtain ⟨y, hy⟩ : ∃ y, y = l.getD (k - 1) 0 := ⟨_, rfl⟩
      have hy2 : l[k - 1]? = some y := by rw [hy, List.getD_eq_getElem?_getD, List.getElem?_eq_getElem hi]; rfl
      have hch2 := hch.drop (k - 1) y hy2
      rw [show k - 1 + 1 = k by omega] at hch2
      have hcu := cut_in R2 (HLV.out y (List.mem_of_getElem? hy2)) hch2 (by simp; omega) (by omega)
      have hll2 : (l.drop k).length = l.length - k := by simp
      rw [hll2] at hcu
      rw [← hy] at hcell
      have HCU := hide2 hcu
      have HE : Hid (swpA mark A n.toNat l = offs (A.put 4 y 0) (l.drop k)) := hide2 (by
        unfold swpA
        rw [← HK.out, if_neg hkl, if_pos hk0, ← hy])
      have kc1 : (0 : Int) < (k : Int) := by omega
      have kc2 : (k : Int) - 1 = ((k - 1 : Nat) : Int) := by omega
      have kc3 : ((k - 1 : Nat) : Int) < (k : Int) := by omega
      clear hcu hch2 hy2 hy R2 HST HLE hch hlvn
      go_wp2_with fail
      refine HCU.out.mono ?_
      rintro e w3 ⟨rfl, h3, hA3⟩
      have HA3 := hide2 hA3
      clear HCU hA3
      go_wp2
      go_ret
      refine ⟨rfl, h3, ?_⟩
      rw [HE.out]
      obtain ⟨K3, a3, b3, c3⟩ := HA3.out
      have hs2 := HF2.out.size
      refine ⟨K3, a3.up (by omega), fun j hj => (b3 j (by omega)).trans (HK2.out j hj), HF2.out.trans c3 (fun j e => ?_)⟩
      rcases Nat.lt_or_ge j w.heap.size with q | q
      · exact .inl ((HK2.out j q).1 e)
      · exact .inr q
    · obtain rfl : k = 0 := by omega
      obtain ⟨b, off, rfl, hbl, hcell⟩ := HLE.out rfl (by omega)
      obtain ⟨y, l2, hl⟩ : ∃ y l2, l = y :: l2 := by
        cases l with
        | nil => simp at hz
        | cons y l2 => exact ⟨y, l2, rfl⟩
      have hl4 : l.length = l2.length + 1 := by rw [hl]; rfl
      have hl3 : l.length - 0 = l2.length + 1 := by omega
      have hch2 := HCH.out
      have hnd := Ch.nodup HOK.out HCH.out
      rw [hl] at hch2 hnd
      obtain ⟨hhd, hyl, hch3⟩ := hch2
      have HCU := hide2 (cut_in R2 hyl hch3 (by omega) (by omega))
      obtain ⟨hnn, hln⟩ := lvI_nat hlvn
      obtain ⟨q, hq⟩ : ∃ q : Nat, q = n.toNat := ⟨_, rfl⟩
      have HE : Hid (swpA mark A n.toNat l = ((offs (A.put 4 y 0) l2).off 1 y).put 0 n.toNat ((offs (A.put 4 y 0) l2).va 4 y)) := hide2 (by
        unfold swpA
        rw [← HK.out, if_neg hkl, if_neg (by omega), hl]
        rfl)
      rw [← hq] at hnn hln hhd HE
      have HNQ := hide2 hnn
      have d1 : (offs (A.put 4 y 0) l2).lv 0 q = true := by rw [offs_lv, if_neg (fun e => by omega)]; exact hln
      have d2 : (offs (A.put 4 y 0) l2).va 0 q = (y : Int) := by
        rw [offs_va]
        show up2 A.va 4 y 0 0 q = _
        rw [up2_other _ _ (fun e => by omega)]
        exact hhd
      have d3 : (offs (A.put 4 y 0) l2).lv 1 y = true := by
        rw [offs_lv, if_neg (fun e => (List.nodup_cons.1 hnd).1 e.2)]
        exact hyl
      have hg0 : l.getD 0 0 = y := by rw [hl]; rfl
      rw [hg0] at hcell
      rw [hl3]
      have HL4 := hide2 hl4
      have D1 := hide2 d1
      have D2 := hide2 d2
      have D3 := hide2 d3
      have HDQ : Hid (∀ {w3 : World} {K3 : Nat → Prop} {M3 u3 : Nat}, Rp w3 K3 sb d z M3 (offs (A.put 4 y 0) l2) u3 → M3 < 3800000000000000000 → Calls Tryd.prog 92 #[.pointer (some ⟨sb, 0, none⟩), .int .i64 n] w3 fun e w' => e = .returned (.int .i64 0) ∧ 3 ≤ u3 ∧ Aft w3 w' K3 sb d z (M3 + 3) (((offs (A.put 4 y 0) l2).off 1 y).put 0 q ((offs (A.put 4 y 0) l2).va 4 y)) (u3 - 3)) := hide2 (fun hr hm => by rw [HNQ.out]; exact drop_in hr D1.out D2.out D3.out hm)
      have HQ := hide2 hq
      have hM3 : M + 2 + 3 * l.length + 2 + l2.length < 3800000000000000000 := by omega
      have hl5 : l2.length < 1000000 := by omega
      have kc1 : ((l2.length + 1 : Nat) : Int) ≠ 0 := by omega
      have kc2 : ¬ (((l2.length + 1 : Nat) : Int) = 0) := by omega
      have kc3 : (0 : Int) < ((l2.length + 1 : Nat) : Int) := by omega
      clear hch3 hhd hyl hln hnd d1 d2 d3 R2 HST HLE hg0 HK HLV hl3 hl4 hz hz2 hz3 hkl hkp hll hq hl hnn hlvn hch
      go_wp2_with fail
      refine HCU.out.mono ?_
      rintro e w3 ⟨rfl, h3, K3, a3, b3, c3⟩
      have HDR := hide2 (HDQ.out a3 hM3)
      have HB3 := hide2 b3
      have HC3 := hide2 c3
      clear HCU a3 b3 c3 hM3
      go_wp2_with fail
      refine HDR.out.mono ?_
      rintro e w4 ⟨rfl, h4, K4, a4, b4, c4⟩
      have HA4 := hide2 a4
      have HB4 := hide2 b4
      have HC4 := hide2 c4
      clear HDR a4 b4 c4
      go_wp2
      go_ret
      have hs2 := HF2.out.size
      have hs3 := HC3.out.size
      have hl4 := HL4.out
      have e5 : u - 3 * (l.length - 0) = u - 3 * l2.length - 3 := by omega
      have e6 : l.length - 0 = l2.length + 1 := by omega
      refine ⟨by rw [e6]; go_num, by omega, ?_⟩
      rw [← HQ.out, HE.out, e5]
      refine ⟨K4, HA4.out.up (by omega), fun j hj => ((HB4.out j (by omega)).trans (HB3.out j (by omega))).trans (HK2.out j hj), (HF2.out.trans HC3.out (fun j e => ?_)).trans HC4.out (fun j e => ?_)⟩
      · rcases Nat.lt_or_ge j w.heap.size with q | q
        · exact .inl ((HK2.out j q).1 e)
        · exact .inr q
      · rcases Nat.lt_or_ge j w.heap.size with q | q
        · exact .inl ((HK2.out j q).1 ((HB3.out j (by omega)).1 e))
        · exact .inr q
end
end
end Go.Proofs.YtfhcphgjaobnoaaDoor
