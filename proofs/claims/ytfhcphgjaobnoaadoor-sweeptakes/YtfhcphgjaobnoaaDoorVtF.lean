/-
  VsF: Layer 15: chains whose versions stand in order: the law's ordered. (Printed by gen_vsf.py.)
  VsG: Layer 15 without memory: nodes whose chains have no version in common, swept; who is seen.
-/
import Derived.Test.YtfhcphgjaobnoaaDoorVtC
set_option linter.unusedVariables false
set_option linter.unusedSimpArgs false
namespace Go.Proofs.YtfhcphgjaobnoaaDoor

section
open Go.RowKit Go.Maps

/-- A gap, as the law makes it. -/
def gp (x : Int) : Int := ((x.tmod 4) + 4).tmod 4
theorem tm4 (x : Int) : -4 < x.tmod 4 ∧ x.tmod 4 < 4 := by
  rcases Int.le_total 0 x with h | h
  · rw [Int.tmod_eq_emod_of_nonneg h]; omega
  · have := Int.neg_tmod (-x) 4
    rw [Int.neg_neg] at this
    rw [this, Int.tmod_eq_emod_of_nonneg (by omega)]; omega
theorem gp_le (x : Int) : 0 ≤ gp x ∧ gp x ≤ 3 := by
  unfold gp
  have h1 := tm4 x
  have h3 : 0 ≤ x.tmod 4 + 4 := by omega
  rw [Int.tmod_eq_emod_of_nonneg h3]
  omega
theorem mbg_time {x : Int} (h : 0 ≤ x ∧ x < 1099511627776) : mbg x = true := by
  have k : kd x = 1 := by unfold kd; rw [if_pos h.2]
  unfold mbg ptO
  rw [k]
  simp
  omega
theorem ptO_time {x : Int} (h : 0 ≤ x ∧ x < 1099511627776) : ptO x = true := by
  have k : kd x = 1 := by unfold kd; rw [if_pos h.2]
  unfold ptO
  rw [k]
  decide
theorem getD_left (l m : List Int) (k : Nat) (h : k < l.length) : (l ++ m).getD k 0 = l.getD k 0 := by
  simp [List.getD, List.getElem?_append_left h]
theorem ld1_more (bs es b2 e2 : List Int) : ∀ k, k ≤ bs.length → k ≤ es.length → ld1 (bs ++ b2) (es ++ e2) k = ld1 bs es k
  | 0, _, _ => rfl
  | k + 1, h1, h2 => by
    have ih := ld1_more bs es b2 e2 k (by omega) (by omega)
    rw [ld1, ld1, ih, getD_left bs b2 k (by omega), getD_left es e2 k (by omega)]
    have d1 : (k < (es ++ e2).length) := by simp; omega
    have d2 : k < es.length := by omega
    simp only [d1, d2, true_and]
/-- Words in order. -/
def OrdW (W : List (Int × Int)) : Prop := Wok W ∧ W.Pairwise fun p q => q.2 ≤ p.1
/-- What holds of a chain that the law is making: k begins, and ends up to t. -/
structure OrdI (t : Int) (bs es : List Int) (k : Nat) : Prop where
  lb : bs.length = k
  le : es.length = k
  t0 : 0 ≤ t ∧ t ≤ 4 * k
  w : ∀ p ∈ ld1 bs es k, 0 ≤ p.1 ∧ p.1 < 1099511627776 ∧ 0 ≤ p.2 ∧ p.2 ≤ t
  pw : (ld1 bs es k).Pairwise fun p q => q.2 ≤ p.1
  b0 : ∀ x ∈ bs, U64 x
  e0 : ∀ x ∈ es, U64 x
structure OrdE (bs es : List Int) (k : Nat) : Prop where
  lb : bs.length = k
  w : OrdW (ld1 bs es k)
  b0 : ∀ x ∈ bs, U64 x
  e0 : ∀ x ∈ es, U64 x
theorem OrdI.start : OrdI 0 [] [] 0 := ⟨rfl, rfl, by omega, (by intro p hp; cases hp), List.Pairwise.nil, (by intro x hx; cases hx), (by intro x hx; cases hx)⟩
theorem OrdI.fin {t : Int} {bs es : List Int} {k : Nat} (h : OrdI t bs es k) (hk : k ≤ 30) : OrdE bs es k := by
  have := h.t0
  exact ⟨h.lb, ⟨fun p hp => by have := h.w p hp; omega, h.pw⟩, h.b0, h.e0⟩
theorem getD_end (l : List Int) (x : Int) : (l ++ [x]).getD l.length 0 = x := by simp [List.getD]
theorem OrdI.next {t : Int} {bs es : List Int} {k : Nat} (h : OrdI t bs es k) (hk : k < 30) {g t' : Int} (hg : 0 ≤ g ∧ g ≤ 3) (ht : t + g ≤ t' ∧ t' ≤ t + 4) : OrdI t' (bs ++ [t]) (es ++ [t + g]) (k + 1) := by
  have ht0 := h.t0
  have hl := h.lb
  have he := h.le
  have e1 : ld1 (bs ++ [t]) (es ++ [t + g]) (k + 1) = (t, t + g) :: ld1 bs es k := by
    have d1 : (bs ++ [t]).getD k 0 = t := by rw [← hl]; exact getD_end bs t
    have d2 : (es ++ [t + g]).getD k 0 = t + g := by rw [← he]; exact getD_end es (t + g)
    rw [ld1, d1, d2, if_pos (mbg_time ⟨by omega, by omega⟩), if_pos ⟨by simp; omega, ptO_time ⟨by omega, by omega⟩⟩, ld1_more bs es _ _ k (by omega) (by omega)]
  refine ⟨by simp; omega, by simp; omega, by omega, ?_, ?_, ?_, ?_⟩
  · rw [e1]
    intro p hp
    rcases List.mem_cons.1 hp with q | q
    · subst q; exact ⟨by show 0 ≤ t; omega, by show t < _; omega, by show 0 ≤ t + g; omega, by show t + g ≤ t'; omega⟩
    · have := h.w p q; omega
  · rw [e1]
    refine List.pairwise_cons.2 ⟨fun q hq => ?_, h.pw⟩
    have := h.w q hq
    show q.2 ≤ t
    omega
  · intro x hx
    rcases List.mem_append.1 hx with q | q
    · exact h.b0 x q
    · simp at q; subst q; exact ⟨by omega, by omega⟩
  · intro x hx
    rcases List.mem_append.1 hx with q | q
    · exact h.e0 x q
    · simp at q; subst q; exact ⟨by omega, by omega⟩
theorem OrdI.last {t : Int} {bs es : List Int} {k : Nat} (h : OrdI t bs es k) (hk : k < 30) : OrdE (bs ++ [t]) es (k + 1) := by
  have ht0 := h.t0
  have hl := h.lb
  have he := h.le
  have e1 : ld1 (bs ++ [t]) es (k + 1) = (t, 1099511627776) :: ld1 bs es k := by
    have d1 : (bs ++ [t]).getD k 0 = t := by rw [← hl]; exact getD_end bs t
    have m := ld1_more bs es [t] [] k (by omega) (by omega)
    rw [List.append_nil] at m
    rw [ld1, d1, if_pos (mbg_time ⟨by omega, by omega⟩), if_neg (fun q => by omega), m]
  refine ⟨by simp; omega, ⟨?_, ?_⟩, ?_, h.e0⟩
  · rw [e1]
    intro p hp
    rcases List.mem_cons.1 hp with q | q
    · subst q; exact ⟨by show 0 ≤ t; omega, by show t < _; omega, by show (0 : Int) ≤ 1099511627776; decide, by show (1099511627776 : Int) ≤ 1099511627776; decide⟩
    · have := h.w p q; omega
  · rw [e1]
    refine List.pairwise_cons.2 ⟨fun q hq => ?_, h.pw⟩
    have := h.w q hq
    show q.2 ≤ t
    omega
  · intro x hx
    rcases List.mem_append.1 hx with q | q
    · exact h.b0 x q
    · simp at q; subst q; exact ⟨by omega, by omega⟩

/-! ### a chain in memory -/
def OgB (g : Nat) (v0 v1 : Value) (j : Nat) : Prop := j = g ∨ v0.ownBlock = some j ∨ v1.ownBlock = some j
structure Og (w : World) (B g : Nat) (v0 v1 : Value) (bs es : List Int) : Prop where
  bk : w.heap[g]? = some (.cells #[v0, v1] 48 (0, 0))
  gb : B ≤ g
  r0 : Ur w B v0 bs
  r1 : Ur w B v1 es
  n0 : v0.ownBlock ≠ some g
  n1 : v1.ownBlock ≠ some g
  a01 : ∀ j, v0.ownBlock = some j → v1.ownBlock ≠ some j
section
variable {w w' w4 : World} {B g : Nat} {v0 v1 v' : Value} {bs es xs : List Int}
theorem Og.lt (h : Og w B g v0 v1 bs es) : g < w.heap.size := (Array.getElem?_eq_some_iff.1 h.bk).1
theorem Og.ge (h : Og w B g v0 v1 bs es) {j : Nat} (e : OgB g v0 v1 j) : B ≤ j ∧ j < w.heap.size := by
  rcases e with e | e | e
  · rw [e]; exact ⟨h.gb, h.lt⟩
  · exact World.ownsRow.lt h.r0 j e
  · exact World.ownsRow.lt h.r1 j e
theorem Og.put0 (h : Og w B g v0 v1 bs es) (hF : Fr (fun j => v0.ownBlock = some j) w w4) (hr : Ur w4 B v' xs) (hbk : ∀ j, v'.ownBlock = some j → v0.ownBlock = some j ∨ w.heap.size ≤ j) :
    Og (w4.setCell ⟨g, 0, none⟩ v') B g v' v1 xs es ∧ Fr (fun j => B ≤ j) w (w4.setCell ⟨g, 0, none⟩ v') := by
  have hgl := h.lt
  have hbk2 : w4.heap[g]? = some (.cells #[v0, v1] 48 (0, 0)) := (hF.block g hgl h.n0).trans h.bk
  have hne : v'.ownBlock ≠ some g := fun e => by
    rcases hbk g e with q | q
    · exact h.n0 q
    · omega
  have hF2 : Fr (fun j => j = g) w4 (w4.setCell ⟨g, 0, none⟩ v') := Fr.setCell (p := ⟨g, 0, none⟩) (Fr.refl (fun j => j = g) w4) (.inl rfl) _
  refine ⟨⟨by rw [Go.Joins.block_setCell hbk2]; rfl, h.gb, hr.fr hF2 (fun j e z => hne (z ▸ e)), (h.r1.fr hF (fun j e => (fun z => h.a01 j z e))).fr hF2 (fun j e z => h.n1 (z ▸ e)), hne, h.n1, ?_⟩, ?_⟩
  · exact fun j e z => by
      rcases hbk j e with q | q
      · exact h.a01 j q z
      · have := (World.ownsRow.lt h.r1 j z).2
        omega
  · exact (hF.mono (G := fun j => B ≤ j) (fun j _ e => (World.ownsRow.lt h.r0 j e).1)).trans (G := fun j => j = g) hF2 (fun j e => .inl (by rw [e]; exact h.gb))
theorem Og.put1 (h : Og w B g v0 v1 bs es) (hF : Fr (fun j => v1.ownBlock = some j) w w4) (hr : Ur w4 B v' xs) (hbk : ∀ j, v'.ownBlock = some j → v1.ownBlock = some j ∨ w.heap.size ≤ j) :
    Og (w4.setCell ⟨g, 1, none⟩ v') B g v0 v' bs xs ∧ Fr (fun j => B ≤ j) w (w4.setCell ⟨g, 1, none⟩ v') := by
  have hgl := h.lt
  have hbk2 : w4.heap[g]? = some (.cells #[v0, v1] 48 (0, 0)) := (hF.block g hgl h.n1).trans h.bk
  have hne : v'.ownBlock ≠ some g := fun e => by
    rcases hbk g e with q | q
    · exact h.n1 q
    · omega
  have hF2 : Fr (fun j => j = g) w4 (w4.setCell ⟨g, 1, none⟩ v') := Fr.setCell (p := ⟨g, 1, none⟩) (Fr.refl (fun j => j = g) w4) (.inl rfl) _
  refine ⟨⟨by rw [Go.Joins.block_setCell hbk2]; rfl, h.gb, (h.r0.fr hF (fun j e => (fun z => h.a01 j e z))).fr hF2 (fun j e z => h.n0 (z ▸ e)), hr.fr hF2 (fun j e z => hne (z ▸ e)), h.n0, hne, ?_⟩, ?_⟩
  · exact fun j e z => by
      rcases hbk j z with q | q
      · exact h.a01 j e q
      · have := (World.ownsRow.lt h.r0 j e).2
        omega
  · exact (hF.mono (G := fun j => B ≤ j) (fun j _ e => (World.ownsRow.lt h.r1 j e).1)).trans (G := fun j => j = g) hF2 (fun j e => .inl (by rw [e]; exact h.gb))
end
/-- What ordered leaves. -/
def OrdR (w w' : World) (v0 v1 : Value) (k : Nat) : Prop := ∃ bs es, Ur w' w.heap.size v0 bs ∧ Ur w' w.heap.size v1 es ∧ OrdE bs es k ∧ Below w.heap.size w w'
section
variable {w : World}
set_option maxRecDepth 100000 in
set_option maxHeartbeats 4000000 in
theorem ordered_any {ao : Option Addr} {len cap : Nat} {gs : List Int} (hs : Seq 1 ih w ao len cap gs) :
    Calls Tryd.prog 23 #[.slice ao len cap] w fun e w' => ∃ v0 v1, e = .returned (.agg #[v0, v1]) ∧ OrdR w w' v0 v1 (min len 30) := by
  obtain ⟨i0, hi0, z0, z1, z2⟩ := info_parts infoUv
  have hcap := hs.2.1
  have hmax := hs.2.2.1
  unfold maxLen at hmax
  obtain ⟨wb, hwb⟩ : ∃ q, q = (w.alloc (.cells #[.slice none 0 0, .slice none 0 0] 48)).alloc (.cells #[.slice none 0 0, .slice none 0 0] 48) := ⟨_, rfl⟩
  have hB : Below w.heap.size w wb := by rw [hwb]; exact ((Below.refl _ w).alloc (Nat.le_refl _) _).alloc (by simp) _
  have hsz : wb.heap.size = w.heap.size + 2 := by rw [hwb]; simp
  have bR : wb.heap[w.heap.size]? = some (.cells #[.slice none 0 0, .slice none 0 0] 48 (0, 0)) := by
    rw [hwb, Below.heap_alloc _ _ _ (by simp)]; exact heap_alloc_new w _
  have bG : wb.heap[w.heap.size + 1]? = some (.cells #[.slice none 0 0, .slice none 0 0] 48 (0, 0)) := by
    have := heap_alloc_new (w.alloc (.cells #[.slice none 0 0, .slice none 0 0] 48)) (.cells #[.slice none 0 0, .slice none 0 0] 48)
    rw [hwb]; simpa using this
  have hO : Og wb w.heap.size (w.heap.size + 1) (.slice none 0 0) (.slice none 0 0) [] [] :=
    ⟨bG, by omega, ⟨rfl, .inl ⟨rfl, rfl⟩⟩, ⟨rfl, .inl ⟨rfl, rfl⟩⟩, (by intro e; cases e), (by intro e; cases e), (by intro j e; cases e)⟩
  have HB := hide2 hB
  have HO := hide2 hO
  have HR := hide2 bR
  have HS := hide2 hs
  clear hB hO bR bG hs
  go_enter Tryd.func23, Tryd.ntmps23
  go_wp2
  rw [← hwb]
  clear hwb
  go_loopw [5, 4] (fun a b wr => ∃ (k : Nat) (t : Int) (u0 u1 : Value) (bs es : List Int), k ≤ len ∧ k ≤ 30 ∧ a = .int .i64 k ∧ b = .int .u64 t ∧ 0 ≤ t ∧ t ≤ 200 ∧ Hid (Og wr w.heap.size (w.heap.size + 1) u0 u1 bs es) ∧ Hid (OrdI t bs es k ∨ (k = len ∧ OrdE bs es k)) ∧ Hid (Below w.heap.size w wr) ∧ Hid (wr.heap[w.heap.size]? = some (.cells #[.slice none 0 0, .slice none 0 0] 48 (0, 0)) ∧ ¬ OgB (w.heap.size + 1) u0 u1 w.heap.size)) (fun a _ _ => 30 - (intOf a).toNat)
  case atStart =>
    refine ⟨0, 0, .slice none 0 0, .slice none 0 0, [], [], by omega, by omega, rfl, rfl, by omega, by omega, HO, hide2 (.inl OrdI.start), HB, hide2 ⟨HR.out, ?_⟩⟩
    rintro (e | e | e)
    · omega
    · cases e
    · cases e
  case round =>
    clear HO HR HB
    obtain ⟨k, t, u0, u1, bs, es, hk1, hk2, rfl, rfl, ht0, ht1, O, I, B, R⟩ := hrel
    have hsz2 := B.out.size
    obtain ⟨a0, p0, ev0⟩ := O.out.r0.form
    obtain ⟨a1, p1, ev1⟩ := O.out.r1.form
    subst ev0 ev1
    by_cases hend : k < len ∧ k < 30
    · have hI : OrdI t bs es k := by
        rcases I.out with q | q
        · exact q
        · omega
      have hil : (k : Int) < (len : Int) := by omega
      have hi30 : (k : Int) < 30 := by omega
      obtain ⟨b, off, rfl, hbl, hcell⟩ := (HS.out.keep B.out).2.2.2 (by omega)
      obtain ⟨x, hx⟩ := some_at HS.out.1 hend.1
      have q0 : wr.cell? ⟨b, off + k, none⟩ = some (.int .i64 x) := by have := hcell k x hx 0 _ rfl; simpa using this
      have hgl := O.out.lt
      have hbk := O.out.bk
      have c0 : wr.cell? ⟨w.heap.size + 1, 0, none⟩ = some (.slice a0 bs.length p0) := by rw [Go.Joins.cell_of_block hbk]; rfl
      have c1 : wr.cell? ⟨w.heap.size + 1, 1, none⟩ = some (.slice a1 es.length p1) := by rw [Go.Joins.cell_of_block hbk]; rfl
      have hlb : bs.length ≤ 30 := by rw [hI.lb]; omega
      have hle : es.length ≤ 30 := by rw [hI.le]; omega
      have hti := hI.t0
      have hg := gp_le x
      have HGX : Hid (gp x = ((x.tmod 4) + 4).tmod 4) := hide2 rfl
      have HI := hide2 hI
      have hxr := tm4 x
      have HOB : Hid (wr.ownsRow w.heap.size 54 1 (.slice a0 bs.length p0) bs.length (bs.map uv)) := hide2 O.out.r0
      have HN0 := hide2 (hcell_new wr (.int .u64 t) 54)
      clear hcell hx hbk hI I
      go_wp2_with (at_builtin; refine Hid.out ?_)
      refine hide2 ?_
      refine wpList_append_own_at _ rfl _ _ 23 rfl w.heap.size 54 i0 (.int .u64 0) 1 8 Tryd.underlying23 hi0 z0 z1 z2 rfl (by decide) (.slice a0 bs.length p0) _ _ rfl (World.ownsRow.alloc HOB.out _) ⟨wr.heap.size, 0, none⟩ 1 1 [.int .u64 t] rfl rfl HN0.out (by simp [Value.oneCell']) (by unfold maxLen; omega) (by omega) (by simp; omega) ?_
      intro v0' x0 hown4 hgrow4 hat4 hb4
      obtain ⟨gt0, cp0, eu0⟩ := hrow_succ hown4
      have hFg : Fr (fun j => (Value.slice a0 bs.length p0).ownBlock = some j) wr x0 := ((Fr.refl (fun j => (Value.slice a0 bs.length p0).ownBlock = some j) wr).alloc (.cells #[.int .u64 t] 54)).trans (Fr.grown hgrow4 (fun j e => e)) (fun j e => .inl e)
      have hr4 : Ur x0 w.heap.size v0' (bs ++ [t]) := by
        unfold Ur
        rw [List.length_append, List.length_singleton, List.map_append]
        exact hown4
      have hfresh : ∀ j, v0'.ownBlock = some j → (Value.slice a0 bs.length p0).ownBlock = some j ∨ wr.heap.size ≤ j := fun j e => by
        rcases hb4 with e5 | e5
        · exact .inl (by rw [← e5]; exact e)
        · right
          rw [e5] at e
          simp at e
          omega
      obtain ⟨hO1, hF1⟩ := O.out.put0 hFg hr4 hfresh
      have hbk4 := (hFg.block (w.heap.size + 1) O.out.lt O.out.n0).trans O.out.bk
      have hx4 : w.heap.size + 1 < x0.heap.size := (Array.getElem?_eq_some_iff.1 hbk4).1
      have y40 : x0.cell? ⟨w.heap.size + 1, 0, none⟩ = some (.slice a0 bs.length p0) := by rw [Go.Joins.cell_of_block hbk4]; rfl
      have y41 : x0.cell? ⟨w.heap.size + 1, 1, none⟩ = some (.slice a1 es.length p1) := by rw [Go.Joins.cell_of_block hbk4]; rfl
      have fz5 : ∀ i, x0.frozen? ⟨w.heap.size + 1, i, none⟩ = false := fun i => Go.Joins.unfrozen_of_block hbk4 i
      obtain ⟨w1, hw1⟩ : ∃ q, q = x0.setCell ⟨w.heap.size + 1, 0, none⟩ v0' := ⟨_, rfl⟩
      rw [← hw1] at hO1 hF1
      have hs1 := hF1.size
      have HB1 : Hid (Below w.heap.size w w1) := hide2 (B.out.trans (hF1.to (fun j hj e => by omega) hsz2))
      have hrl : w.heap.size < wr.heap.size := (Array.getElem?_eq_some_iff.1 R.out.1).1
      have HR1 : Hid (w1.heap[w.heap.size]? = some (.cells #[.slice none 0 0, .slice none 0 0] 48 (0, 0)) ∧ ¬ OgB (w.heap.size + 1) v0' (.slice a1 es.length p1) w.heap.size) := hide2 (by
        refine ⟨?_, ?_⟩
        · have e1 : x0.heap[w.heap.size]? = wr.heap[w.heap.size]? := hFg.block _ hrl (fun e => R.out.2 (.inr (.inl e)))
          rw [hw1, Below.heap_setCell _ _ _ _ (by show w.heap.size ≠ w.heap.size + 1; omega), e1]
          exact R.out.1
        · rintro (e | e | e)
          · omega
          · rcases hfresh _ e with q | q
            · exact R.out.2 (.inr (.inl q))
            · omega
          · exact R.out.2 (.inr (.inr e)))
      obtain ⟨g, hgd⟩ : ∃ g, g = x.tmod 4 % 4 := ⟨_, rfl⟩
      have hg3 : 0 ≤ g ∧ g ≤ 3 := by omega
      rw [← hgd]
      have O1 := hide2 hO1
      have hn1 := hcell_new w1 (.int .u64 (t + g)) 54
      have hws1 : w1.heap.size = x0.heap.size := by rw [hw1]; simp [World.setCell]
      rw [hws1] at hn1
      have HN1 := hide2 hn1
      have HOB1 : Hid (w1.ownsRow w.heap.size 54 1 (.slice a1 es.length p1) es.length (es.map uv)) := hide2 hO1.r1
      clear hown4 hgrow4 hat4 hb4 hFg hr4 hbk4 HN0 HOB hfresh hO1 hF1 c0 c1 q0 hg HGX hxr hgd hn1 R B O hbl hgl
      subst eu0
      go_frame
      by_cases hcond : k + 1 < len ∨ g < 2
      · by_cases hkk : k + 1 < len
        · have hc1 : (k : Int) + 1 < (len : Int) := by omega
          go_wp2_with (at_builtin; refine Hid.out ?_)
          refine hide2 ?_
          rw [← hw1]
          refine wpList_append_own_at _ rfl _ _ 23 rfl w.heap.size 54 i0 (.int .u64 0) 1 8 Tryd.underlying23 hi0 z0 z1 z2 rfl (by decide) (.slice a1 es.length p1) _ _ rfl (World.ownsRow.alloc HOB1.out _) ⟨x0.heap.size, 0, none⟩ 1 1 [.int .u64 (t + g)] rfl rfl HN1.out (by simp [Value.oneCell']) (by unfold maxLen; omega) (by omega) (by have := HB1.out.size; simp; omega) ?_
          intro v1' x1 hown4 hgrow4 hat4 hb4
          obtain ⟨gt1, cp1, eu1⟩ := hrow_succ hown4
          have hFg : Fr (fun j => (Value.slice a1 es.length p1).ownBlock = some j) w1 x1 := ((Fr.refl (fun j => (Value.slice a1 es.length p1).ownBlock = some j) w1).alloc (.cells #[.int .u64 (t + g)] 54)).trans (Fr.grown hgrow4 (fun j e => e)) (fun j e => .inl e)
          have hr4 : Ur x1 w.heap.size v1' (es ++ [t + g]) := by
            unfold Ur
            rw [List.length_append, List.length_singleton, List.map_append]
            exact hown4
          have hfresh : ∀ j, v1'.ownBlock = some j → (Value.slice a1 es.length p1).ownBlock = some j ∨ w1.heap.size ≤ j := fun j e => by
            rcases hb4 with e5 | e5
            · exact .inl (by rw [← e5]; exact e)
            · right
              rw [e5] at e
              simp at e
              omega
          obtain ⟨hO2, hF2⟩ := O1.out.put1 hFg hr4 hfresh
          have hbk4 := (hFg.block (w.heap.size + 1) O1.out.lt O1.out.n1).trans O1.out.bk
          have hx5 : w.heap.size + 1 < x1.heap.size := (Array.getElem?_eq_some_iff.1 hbk4).1
          have y51 : x1.cell? ⟨w.heap.size + 1, 1, none⟩ = some (.slice a1 es.length p1) := by rw [Go.Joins.cell_of_block hbk4]; rfl
          have fz6 : ∀ i, x1.frozen? ⟨w.heap.size + 1, i, none⟩ = false := fun i => Go.Joins.unfrozen_of_block hbk4 i
          obtain ⟨w2, hw2⟩ : ∃ q, q = x1.setCell ⟨w.heap.size + 1, 1, none⟩ v1' := ⟨_, rfl⟩
          rw [← hw2] at hO2 hF2
          have HB2 : Hid (Below w.heap.size w w2) := hide2 (HB1.out.trans (hF2.to (fun j hj e => by omega) HB1.out.size))
          have hrl1 : w.heap.size < w1.heap.size := (Array.getElem?_eq_some_iff.1 HR1.out.1).1
          have HR2 : Hid (w2.heap[w.heap.size]? = some (.cells #[.slice none 0 0, .slice none 0 0] 48 (0, 0)) ∧ ¬ OgB (w.heap.size + 1) (.slice (some ⟨gt0, 0, none⟩) (bs.length + 1) cp0) v1' w.heap.size) := hide2 (by
            refine ⟨?_, ?_⟩
            · have e1 : x1.heap[w.heap.size]? = w1.heap[w.heap.size]? := hFg.block _ hrl1 (fun e => HR1.out.2 (.inr (.inr e)))
              rw [hw2, Below.heap_setCell _ _ _ _ (by show w.heap.size ≠ w.heap.size + 1; omega), e1]
              exact HR1.out.1
            · rintro (e | e | e)
              · omega
              · exact HR1.out.2 (.inr (.inl e))
              · rcases hfresh _ e with q | q
                · exact HR1.out.2 (.inr (.inr q))
                · omega)
          have O2 := hide2 hO2
          clear hown4 hgrow4 hat4 hb4 hFg hr4 hbk4 HN1 HOB1 hfresh hO2 hF2 O1 HB1 HR1 y40 y41 fz5
          subst eu1
          go_frame
          by_cases hg9 : g = 3
          · subst hg9
            have HL : Hid (OrdI (t + 3 + 1) (bs ++ [t]) (es ++ [t + 3]) (k + 1)) := hide2 (HI.out.next hend.2 hg3 ⟨by omega, by omega⟩)
            go_wp2
            try rw [← hw2]
            go_roundw
            case rel => exact ⟨k + 1, t + 3 + 1, _, _, bs ++ [t], es ++ [t + 3], by omega, by omega, by go_num, by go_num, by omega, by omega, O2, hide2 (.inl HL.out), HB2, HR2⟩
            case measure => simp [intOf]; omega
          · have hg8 : (g == 3) = false := by simp [hg9]
            have HL : Hid (OrdI (t + g) (bs ++ [t]) (es ++ [t + g]) (k + 1)) := hide2 (HI.out.next hend.2 hg3 ⟨by omega, by omega⟩)
            go_wp2
            try rw [← hw2]
            go_roundw
            case rel => exact ⟨k + 1, t + g, _, _, bs ++ [t], es ++ [t + g], by omega, by omega, by go_num, by go_num, by omega, by omega, O2, hide2 (.inl HL.out), HB2, HR2⟩
            case measure => simp [intOf]; omega
        · have hc1 : ¬ (k : Int) + 1 < (len : Int) := by omega
          have hc2 : g < 2 := by omega
          go_wp2_with (at_builtin; refine Hid.out ?_)
          refine hide2 ?_
          rw [← hw1]
          refine wpList_append_own_at _ rfl _ _ 23 rfl w.heap.size 54 i0 (.int .u64 0) 1 8 Tryd.underlying23 hi0 z0 z1 z2 rfl (by decide) (.slice a1 es.length p1) _ _ rfl (World.ownsRow.alloc HOB1.out _) ⟨x0.heap.size, 0, none⟩ 1 1 [.int .u64 (t + g)] rfl rfl HN1.out (by simp [Value.oneCell']) (by unfold maxLen; omega) (by omega) (by have := HB1.out.size; simp; omega) ?_
          intro v1' x1 hown4 hgrow4 hat4 hb4
          obtain ⟨gt1, cp1, eu1⟩ := hrow_succ hown4
          have hFg : Fr (fun j => (Value.slice a1 es.length p1).ownBlock = some j) w1 x1 := ((Fr.refl (fun j => (Value.slice a1 es.length p1).ownBlock = some j) w1).alloc (.cells #[.int .u64 (t + g)] 54)).trans (Fr.grown hgrow4 (fun j e => e)) (fun j e => .inl e)
          have hr4 : Ur x1 w.heap.size v1' (es ++ [t + g]) := by
            unfold Ur
            rw [List.length_append, List.length_singleton, List.map_append]
            exact hown4
          have hfresh : ∀ j, v1'.ownBlock = some j → (Value.slice a1 es.length p1).ownBlock = some j ∨ w1.heap.size ≤ j := fun j e => by
            rcases hb4 with e5 | e5
            · exact .inl (by rw [← e5]; exact e)
            · right
              rw [e5] at e
              simp at e
              omega
          obtain ⟨hO2, hF2⟩ := O1.out.put1 hFg hr4 hfresh
          have hbk4 := (hFg.block (w.heap.size + 1) O1.out.lt O1.out.n1).trans O1.out.bk
          have hx5 : w.heap.size + 1 < x1.heap.size := (Array.getElem?_eq_some_iff.1 hbk4).1
          have y51 : x1.cell? ⟨w.heap.size + 1, 1, none⟩ = some (.slice a1 es.length p1) := by rw [Go.Joins.cell_of_block hbk4]; rfl
          have fz6 : ∀ i, x1.frozen? ⟨w.heap.size + 1, i, none⟩ = false := fun i => Go.Joins.unfrozen_of_block hbk4 i
          obtain ⟨w2, hw2⟩ : ∃ q, q = x1.setCell ⟨w.heap.size + 1, 1, none⟩ v1' := ⟨_, rfl⟩
          rw [← hw2] at hO2 hF2
          have HB2 : Hid (Below w.heap.size w w2) := hide2 (HB1.out.trans (hF2.to (fun j hj e => by omega) HB1.out.size))
          have hrl1 : w.heap.size < w1.heap.size := (Array.getElem?_eq_some_iff.1 HR1.out.1).1
          have HR2 : Hid (w2.heap[w.heap.size]? = some (.cells #[.slice none 0 0, .slice none 0 0] 48 (0, 0)) ∧ ¬ OgB (w.heap.size + 1) (.slice (some ⟨gt0, 0, none⟩) (bs.length + 1) cp0) v1' w.heap.size) := hide2 (by
            refine ⟨?_, ?_⟩
            · have e1 : x1.heap[w.heap.size]? = w1.heap[w.heap.size]? := hFg.block _ hrl1 (fun e => HR1.out.2 (.inr (.inr e)))
              rw [hw2, Below.heap_setCell _ _ _ _ (by show w.heap.size ≠ w.heap.size + 1; omega), e1]
              exact HR1.out.1
            · rintro (e | e | e)
              · omega
              · exact HR1.out.2 (.inr (.inl e))
              · rcases hfresh _ e with q | q
                · exact HR1.out.2 (.inr (.inr q))
                · omega)
          have O2 := hide2 hO2
          clear hown4 hgrow4 hat4 hb4 hFg hr4 hbk4 HN1 HOB1 hfresh hO2 hF2 O1 HB1 HR1 y40 y41 fz5
          subst eu1
          go_frame
          by_cases hg9 : g = 3
          · exfalso; omega
          · have hg8 : (g == 3) = false := by simp [hg9]
            have HL : Hid (OrdI (t + g) (bs ++ [t]) (es ++ [t + g]) (k + 1)) := hide2 (HI.out.next hend.2 hg3 ⟨by omega, by omega⟩)
            go_wp2
            try rw [← hw2]
            go_roundw
            case rel => exact ⟨k + 1, t + g, _, _, bs ++ [t], es ++ [t + g], by omega, by omega, by go_num, by go_num, by omega, by omega, O2, hide2 (.inl HL.out), HB2, HR2⟩
            case measure => simp [intOf]; omega
      · have hk9 : k + 1 = len := by omega
        have hc1 : ¬ ((k : Int) + 1 < (len : Int)) := by omega
        have hc2 : ¬ (g < 2) := by omega
        have HL : Hid (OrdE (bs ++ [t]) es (k + 1)) := hide2 (HI.out.last hend.2)
        by_cases hg9 : g = 3
        · subst hg9
          go_wp2
          try rw [← hw1]
          go_roundw
          case rel => exact ⟨k + 1, t + 3 + 1, _, _, bs ++ [t], es, by omega, by omega, by go_num, by go_num, by omega, by omega, O1, hide2 (.inr ⟨hk9, HL.out⟩), HB1, HR1⟩
          case measure => simp [intOf]; omega
        · have hg8 : (g == 3) = false := by simp [hg9]
          go_wp2
          try rw [← hw1]
          go_roundw
          case rel => exact ⟨k + 1, t + g, _, _, bs ++ [t], es, by omega, by omega, by go_num, by go_num, by omega, by omega, O1, hide2 (.inr ⟨hk9, HL.out⟩), HB1, HR1⟩
          case measure => simp [intOf]; omega
    · have hmin : min len 30 = k := by omega
      have HE : Hid (OrdE bs es k) := hide2 (by
        rcases I.out with q | q
        · exact q.fin hk2
        · exact q.2)
      have hbr := R.out.1
      have HALL : Hid (∀ y0 y1 : Value, (Value.slice a0 bs.length p0) = y0 → (Value.slice a1 es.length p1) = y1 → ((wr.setCell ⟨w.heap.size, 0, none⟩ y0).setCell ⟨w.heap.size, 1, none⟩ y1).heap[w.heap.size]? = some (.cells #[y0, y1] 48 (0, 0)) ∧ Ur ((wr.setCell ⟨w.heap.size, 0, none⟩ y0).setCell ⟨w.heap.size, 1, none⟩ y1) w.heap.size y0 bs ∧ Ur ((wr.setCell ⟨w.heap.size, 0, none⟩ y0).setCell ⟨w.heap.size, 1, none⟩ y1) w.heap.size y1 es ∧ Below w.heap.size w ((wr.setCell ⟨w.heap.size, 0, none⟩ y0).setCell ⟨w.heap.size, 1, none⟩ y1)) := hide2 (by
        rintro y0 y1 rfl rfl
        have hF2 : Fr (fun j => j = w.heap.size) wr ((wr.setCell ⟨w.heap.size, 0, none⟩ (Value.slice a0 bs.length p0)).setCell ⟨w.heap.size, 1, none⟩ (Value.slice a1 es.length p1)) :=
          Fr.setCell (p := ⟨w.heap.size, 1, none⟩) (Fr.setCell (p := ⟨w.heap.size, 0, none⟩) (Fr.refl (fun j => j = w.heap.size) wr) (.inl rfl) _) (.inl rfl) _
        have hnr := R.out.2
        refine ⟨by rw [Go.Joins.block_setCell (Go.Joins.block_setCell hbr _)]; rfl, O.out.r0.fr hF2 (fun j e z => hnr (.inr (.inl (z ▸ e)))), O.out.r1.fr hF2 (fun j e z => hnr (.inr (.inr (z ▸ e)))), B.out.trans (hF2.to (fun j hj e => by omega) hsz2)⟩)
      have r0 : wr.cell? ⟨w.heap.size, 0, none⟩ = some (.slice none 0 0) := by rw [Go.Joins.cell_of_block hbr]; rfl
      have r1 : wr.cell? ⟨w.heap.size, 1, none⟩ = some (.slice none 0 0) := by rw [Go.Joins.cell_of_block hbr]; rfl
      have fr : ∀ i, wr.frozen? ⟨w.heap.size, i, none⟩ = false := fun i => Go.Joins.unfrozen_of_block hbr i
      have hrl : w.heap.size < wr.heap.size := (Array.getElem?_eq_some_iff.1 hbr).1
      have hgl := O.out.lt
      have hbk := O.out.bk
      have c0 : wr.cell? ⟨w.heap.size + 1, 0, none⟩ = some (.slice a0 bs.length p0) := by rw [Go.Joins.cell_of_block hbk]; rfl
      have c1 : wr.cell? ⟨w.heap.size + 1, 1, none⟩ = some (.slice a1 es.length p1) := by rw [Go.Joins.cell_of_block hbk]; rfl
      have hne : w.heap.size ≠ w.heap.size + 1 := by omega
      have HA := HALL.out _ _ rfl rfl
      have HA1 := hide2 HA.1
      have HA2 := hide2 HA.2
      clear hbr hbk HALL HA O B R I
      by_cases hlt : k < len
      · have hil : (k : Int) < (len : Int) := by omega
        have hi30 : ¬ (k : Int) < 30 := by omega
        go_wp2
        exact bodyPost_ret (v := .agg #[.slice a0 bs.length p0, .slice a1 es.length p1]) (results_cell_row (p := 2) (ty := 48) rfl _ _ w.heap.size 48 #[.slice a0 bs.length p0, .slice a1 es.length p1] (0, 0) _ rfl HA1.out Tryd.underlying48 rfl (by kernel_rfl)) rfl ⟨_, _, rfl, bs, es, HA2.out.1, HA2.out.2.1, by first | exact HE.out | (rw [hmin]; exact HE.out), HA2.out.2.2⟩
      · have hil : ¬ (k : Int) < (len : Int) := by omega
        go_wp2
        exact bodyPost_ret (v := .agg #[.slice a0 bs.length p0, .slice a1 es.length p1]) (results_cell_row (p := 2) (ty := 48) rfl _ _ w.heap.size 48 #[.slice a0 bs.length p0, .slice a1 es.length p1] (0, 0) _ rfl HA1.out Tryd.underlying48 rfl (by kernel_rfl)) rfl ⟨_, _, rfl, bs, es, HA2.out.1, HA2.out.2.1, by first | exact HE.out | (rw [hmin]; exact HE.out), HA2.out.2.2⟩
end
end

section
open Go.RowKit Go.Maps

section
variable {A A' : Stt} {m : Nat} {L L' : Nat → List Nat} {W W' : Nat → List (Int × Int)}
theorem Nds.congr (h : Nds A m L W) (e1 : ∀ i, 1 ≤ i → i ≤ m → L' i = L i) (e2 : ∀ i, 1 ≤ i → i ≤ m → W' i = W i) : Nds A m L' W' :=
  ⟨h.la, fun n h1 h2 => by rw [e1 n h1 h2]; exact h.fr n h1 h2, fun n k hne h1 h2 h3 h4 v => by rw [e1 n h1 h2, e1 k h3 h4]; exact h.dj n k hne h1 h2 h3 h4 v, fun n h1 h2 => by rw [e1 n h1 h2, e2 n h1 h2]; exact h.wd n h1 h2⟩
theorem Ch.cut (hz : A'.lv 1 0 = false) : ∀ {l : List Nat} {x : Int} {k : Nat}, Ch A x l → k < l.length → (∀ v ∈ l.take (k + 1), A'.lv 1 v = true) → (∀ v ∈ l.take k, A'.va 4 v = A.va 4 v) → A'.va 4 (l.getD k 0) = 0 → Ch A' x (l.take (k + 1))
  | [], _, k, _, hk, _, _, _ => by simp at hk
  | y :: l, x, 0, h, _, hl, _, h0 => by
    refine ⟨h.1, hl y (by simp), ?_⟩
    have e : A'.va 4 y = 0 := h0
    rw [e]
    exact .inr hz
  | y :: l, x, k + 1, h, hk, hl, hv, h0 => by
    refine ⟨h.1, hl y (by simp), ?_⟩
    rw [hv y (by simp)]
    exact Ch.cut hz h.2.2 (by simpa using hk) (fun v q => hl v (by rw [List.take_succ_cons]; exact List.mem_cons_of_mem _ q)) (fun v q => hv v (by rw [List.take_succ_cons]; exact List.mem_cons_of_mem _ q)) h0
theorem not_drop {l : List Nat} (hn : l.Nodup) {k : Nat} {v : Nat} (h : v ∈ l.take k) : ¬ v ∈ l.drop k := by
  have e := List.take_append_drop k l
  rw [← e] at hn
  exact fun q => (List.nodup_append.1 hn).2.2 v h v q rfl
theorem Nds.cutTo (hok : A.ok) (h : Nds A m L W) {n k : Nat} (h1 : 1 ≤ n) (h2 : n ≤ m) (la : A'.la = A.la) (lv0 : ∀ i, A'.lv 0 i = A.lv 0 i) (lv1 : ∀ v, A'.lv 1 v = if v ∈ (L n).drop k then false else A.lv 1 v) (va0 : ∀ i, i ≠ n → A'.va 0 i = A.va 0 i)
    (va23 : ∀ v, A'.va 2 v = A.va 2 v ∧ A'.va 3 v = A.va 3 v) (va4 : ∀ v, ¬ v ∈ L n → A'.va 4 v = A.va 4 v) (hf : Frt A' n (A'.va 0 n) ((L n).take k)) : Nds A' m (up1 L n ((L n).take k)) (up1 W n ((W n).take k)) := by
  have hpr : ∀ v, pr A' v = pr A v := fun v => by unfold pr; rw [(va23 v).1, (va23 v).2]
  have sub : ∀ i v, v ∈ up1 L n ((L n).take k) i → v ∈ L i := fun i v hv => by
    by_cases e : i = n
    · subst e; rw [up1_same] at hv; exact List.mem_of_mem_take hv
    · rw [up1_other _ _ e] at hv; exact hv
  refine ⟨by rw [la]; exact h.la, fun i q1 q2 => ?_, fun i j hne q1 q2 q3 q4 v hv hv' => h.dj i j hne q1 q2 q3 q4 v (sub i v hv) (sub j v hv'), fun i q1 q2 => ?_⟩
  · by_cases e : i = n
    · subst e; rw [up1_same]; exact hf
    · have f := h.fr i q1 q2
      rw [up1_other _ _ e, va0 i e]
      have live : ∀ v ∈ L i, A'.lv 1 v = true := fun v hv => by
        rw [lv1, if_neg (fun q => h.dj i n e q1 q2 h1 h2 v hv (List.mem_of_mem_drop q))]
        exact f.ch.live v hv
      refine ⟨f.ch.congr hok (fun v hv => ⟨live v hv, va4 v (h.dj i n e q1 q2 h1 h2 v hv)⟩) (fun y _ hy => ?_), va0 i e, by rw [lv0]; exact f.lv, ?_⟩
      · rw [lv1] at hy
        split at hy
        · cases hy
        · exact hy
      · rcases f.xn with q | ⟨y, q5, q6, q7⟩
        · exact .inl q
        · refine .inr ⟨y, q5, live y ?_, q7⟩
          have := f.ch
          rw [q5] at this
          cases hL : L i with
          | nil =>
            rw [hL] at this
            rcases this with z | z
            · omega
            · simp [q6] at z
          | cons a b =>
            rw [hL] at this
            have := this.1
            simp
            omega
  · by_cases e : i = n
    · subst e
      rw [up1_same, up1_same, List.map_take, ← h.wd i q1 q2]
      congr 1
      exact List.map_congr_left fun v _ => hpr v
    · rw [up1_other _ _ e, up1_other _ _ e, ← h.wd i q1 q2]
      exact List.map_congr_left fun v _ => hpr v
theorem offs_ok : ∀ (l : List Nat) {A : Stt}, A.ok → (offs A l).ok
  | [], A, h => h
  | n :: l, A, h => offs_ok l (Stt.off_ok h (by decide))
theorem put4_va (A : Stt) (y v : Nat) : (A.put 4 y 0).va 4 v = if v = y then 0 else A.va 4 v := by
  show up2 A.va 4 y 0 4 v = _
  by_cases e : v = y
  · rw [e, up2_same, if_pos rfl]
  · rw [up2_other _ _ (fun q => e q.2), if_neg e]
theorem lv_zero (h : A.ok) (c : Nat) : A.lv c 0 = false := by
  cases e : A.lv c 0 with
  | false => rfl
  | true => have := h.n1 c 0 e; omega
theorem getD_mem {l : List Nat} {k : Nat} (h : k < l.length) : l.getD k 0 ∈ l.take (k + 1) := by
  rw [take_snoc (o := l.getD k 0) (by rw [List.getD_eq_getElem?_getD, List.getElem?_eq_getElem h]; rfl)]
  simp
theorem swpA_ok (hok : A.ok) {mark : Int} {n : Nat} {l : List Nat} (hn : A.lv 0 n = true) (hl : ∀ v ∈ l, A.lv 1 v = true) : (swpA mark A n l).ok := by
  have hp : ∀ y ∈ l, (A.put 4 y 0).ok := fun y hy => Stt.put_ok hok (by omega) (fun e => by omega) (fun _ => by have := hok.n1 1 y (hl y hy); omega)
  unfold swpA
  split
  · exact hok
  · rename_i h1
    have hkl := kp_le mark (l.map (pr A))
    rw [List.length_map] at hkl
    split
    · rename_i h2
      exact offs_ok _ (hp _ (List.mem_of_mem_take (getD_mem (by omega))))
    · have h0 : 0 < l.length := by omega
      refine Stt.put_ok (Stt.off_ok (offs_ok _ (hp _ (List.mem_of_mem_take (getD_mem h0)))) (by decide)) ?_ (fun _ => ?_) (fun e => by omega)
      · rw [offs_va, put4_va, if_pos rfl]; omega
      · rw [offs_va, put4_va, if_pos rfl]; omega
/-- A node is swept. -/
theorem Nds.swp (hok : A.ok) (h : Nds A m L W) {n : Nat} (h1 : 1 ≤ n) (h2 : n ≤ m) (mark : Int) : Nds (swpA mark A n (L n)) m (up1 L n ((L n).take (kp mark (W n)))) (up1 W n ((W n).take (kp mark (W n)))) := by
  have hwd := h.wd n h1 h2
  have f := h.fr n h1 h2
  have hnd := f.ch.nodup hok
  have hkl := kp_le mark (W n)
  have hlen : (W n).length = (L n).length := by rw [← hwd, List.length_map]
  obtain ⟨k, hk⟩ : ∃ k, k = kp mark (W n) := ⟨_, rfl⟩
  have hkA : kp mark ((L n).map (pr A)) = k := by rw [hwd, hk]
  rw [← hk] at hkl ⊢
  by_cases e1 : k = (L n).length
  · have e2 : swpA mark A n (L n) = A := by unfold swpA; rw [hkA, if_pos e1]
    rw [e2]
    refine h.congr (fun i _ _ => ?_) (fun i _ _ => ?_)
    · by_cases e : i = n
      · rw [e, up1_same, e1, List.take_length]
      · rw [up1_other _ _ e]
    · by_cases e : i = n
      · rw [e, up1_same, e1, ← hlen, List.take_length]
      · rw [up1_other _ _ e]
  · have hkl2 : k < (L n).length := by omega
    have put23 : ∀ (y v : Nat), (A.put 4 y 0).va 2 v = A.va 2 v ∧ (A.put 4 y 0).va 3 v = A.va 3 v := fun y v => by
      constructor
      · show up2 A.va 4 y 0 2 v = _; rw [up2_other _ _ (fun q => by omega)]
      · show up2 A.va 4 y 0 3 v = _; rw [up2_other _ _ (fun q => by omega)]
    have put0 : ∀ (y v : Nat), (A.put 4 y 0).va 0 v = A.va 0 v := fun y v => by show up2 A.va 4 y 0 0 v = _; rw [up2_other _ _ (fun q => by omega)]
    by_cases e2 : 0 < k
    · obtain ⟨j, rfl⟩ : ∃ j, k = j + 1 := ⟨k - 1, by omega⟩
      have e3 : swpA mark A n (L n) = offs (A.put 4 ((L n).getD j 0) 0) ((L n).drop (j + 1)) := by unfold swpA; rw [hkA, if_neg e1, if_pos e2]; rfl
      rw [e3]
      obtain ⟨y, hy⟩ : ∃ y, y = (L n).getD j 0 := ⟨_, rfl⟩
      have hymem : y ∈ (L n).take (j + 1) := by rw [hy]; exact getD_mem (by omega)
      rw [← hy]
      have lv1 : ∀ v, (offs (A.put 4 y 0) ((L n).drop (j + 1))).lv 1 v = if v ∈ (L n).drop (j + 1) then false else A.lv 1 v := fun v => by
        rw [offs_lv]; simp only [true_and]; rfl
      have live : ∀ v ∈ (L n).take (j + 1), (offs (A.put 4 y 0) ((L n).drop (j + 1))).lv 1 v = true := fun v hv => by
        rw [lv1, if_neg (not_drop hnd hv)]; exact f.ch.live v (List.mem_of_mem_take hv)
      have v0 : (offs (A.put 4 y 0) ((L n).drop (j + 1))).va 0 n = A.va 0 n := by rw [offs_va, put0]
      refine h.cutTo hok h1 h2 (by rw [offs_la]; rfl) (fun i => by rw [offs_lv, if_neg (fun q => by omega)]; rfl) lv1 (fun i _ => by rw [offs_va, put0]) (fun v => by rw [offs_va]; exact put23 y v) (fun v hv => ?_) ?_
      · rw [offs_va, put4_va, if_neg (fun q => hv (by rw [q]; exact List.mem_of_mem_take hymem))]
      · rw [v0]
        refine ⟨f.ch.cut (lv_zero (offs_ok _ (Stt.put_ok hok (by omega) (fun e => by omega) (fun _ => by have := hok.n1 1 y (f.ch.live y (List.mem_of_mem_take hymem)); omega))) 1) (by omega) live (fun v hv => ?_) ?_, v0, by rw [offs_lv, if_neg (fun q => by omega)]; exact f.lv, ?_⟩
        · rw [offs_va, put4_va, if_neg]
          intro q
          rw [q, hy] at hv
          have hat : (L n)[j]? = some ((L n).getD j 0) := by rw [List.getD_eq_getElem?_getD, List.getElem?_eq_getElem (by omega : j < (L n).length)]; rfl
          have hdr : (L n).getD j 0 ∈ (L n).drop j := List.mem_of_getElem? (i := 0) (by rw [List.getElem?_drop, Nat.add_zero]; exact hat)
          exact not_drop hnd hv hdr
        · rw [offs_va, put4_va, if_pos hy.symm]
        · rcases f.xn with q | ⟨z, q5, q6, q7⟩
          · exact .inl q
          · refine .inr ⟨z, q5, live z ?_, q7⟩
            have hc := f.ch
            rw [q5] at hc
            cases hL : L n with
            | nil => rw [hL] at hkl2; simp at hkl2
            | cons a b =>
              rw [hL] at hc
              have := hc.1
              rw [List.take_succ_cons]
              have : z = a := by omega
              rw [this]; simp
    · obtain rfl : k = 0 := by omega
      have h0 : 0 < (L n).length := by omega
      have e3 : swpA mark A n (L n) = ((offs (A.put 4 ((L n).getD 0 0) 0) ((L n).drop 1)).off 1 ((L n).getD 0 0)).put 0 n ((offs (A.put 4 ((L n).getD 0 0) 0) ((L n).drop 1)).va 4 ((L n).getD 0 0)) := by unfold swpA; rw [hkA, if_neg e1, if_neg (by omega)]
      rw [e3]
      obtain ⟨y, hy⟩ : ∃ y, y = (L n).getD 0 0 := ⟨_, rfl⟩
      rw [← hy]
      have hz : (offs (A.put 4 y 0) ((L n).drop 1)).va 4 y = 0 := by rw [offs_va, put4_va, if_pos rfl]
      rw [hz]
      have hL : L n = y :: (L n).drop 1 := by
        cases hl : L n with
        | nil => rw [hl] at h0; simp at h0
        | cons a b => rw [hy, hl]; rfl
      have lv1 : ∀ v, (((offs (A.put 4 y 0) ((L n).drop 1)).off 1 y).put 0 n 0).lv 1 v = if v ∈ (L n).drop 0 then false else A.lv 1 v := fun v => by
        show up2 (offs (A.put 4 y 0) ((L n).drop 1)).lv 1 y false 1 v = _
        rw [List.drop_zero]
        by_cases e : v = y
        · rw [e, up2_same, if_pos (by rw [hL]; simp)]
        · rw [up2_other _ _ (fun q => e q.2), offs_lv]
          simp only [true_and]
          by_cases q : v ∈ (L n).drop 1
          · rw [if_pos q, if_pos (List.mem_of_mem_drop q)]
          · rw [if_neg q, if_neg (fun z => by rw [hL] at z; rcases List.mem_cons.1 z with z | z <;> contradiction)]
            rfl
      have vv : ∀ c v, ¬ (c = 0 ∧ v = n) → (((offs (A.put 4 y 0) ((L n).drop 1)).off 1 y).put 0 n 0).va c v = (A.put 4 y 0).va c v := fun c v q => by
        show up2 (offs (A.put 4 y 0) ((L n).drop 1)).va 0 n 0 c v = _
        rw [up2_other _ _ q, offs_va]
      have v0 : (((offs (A.put 4 y 0) ((L n).drop 1)).off 1 y).put 0 n 0).va 0 n = 0 := by
        show up2 (offs (A.put 4 y 0) ((L n).drop 1)).va 0 n 0 0 n = _
        rw [up2_same]
      refine h.cutTo hok h1 h2 (by show (offs _ _).la = _; rw [offs_la]; rfl) (fun i => ?_) lv1 (fun i hi => by rw [vv 0 i (fun q => hi q.2), put0]) (fun v => ⟨by rw [vv 2 v (fun q => by omega)]; exact (put23 y v).1, by rw [vv 3 v (fun q => by omega)]; exact (put23 y v).2⟩) (fun v hv => ?_) ?_
      · show up2 (offs (A.put 4 y 0) ((L n).drop 1)).lv 1 y false 0 i = _
        rw [up2_other _ _ (fun q => by omega), offs_lv, if_neg (fun q => by omega)]
        rfl
      · rw [vv 4 v (fun q => by omega), put4_va, if_neg (fun q => hv (by rw [q, hL]; simp))]
      · rw [v0, List.take_zero]
        refine ⟨.inr ?_, v0, ?_, .inl rfl⟩
        · rw [lv1]
          split
          · rfl
          · exact lv_zero hok 1
        · show up2 (offs (A.put 4 y 0) ((L n).drop 1)).lv 1 y false 0 n = true
          rw [up2_other _ _ (fun q => by omega), offs_lv, if_neg (fun q => by omega)]
          exact f.lv
/-- What is left of nodes of which those from s on, c of them, were swept. -/
def tkS {α : Type} (mark : Int) (W : Nat → List (Int × Int)) (F : Nat → List α) (s c : Nat) (i : Nat) : List α := if s ≤ i ∧ i < s + c then (F i).take (kp mark (W i)) else F i
theorem Nds.sws (mark : Int) : ∀ (c s : Nat) {A A' : Stt} {L : Nat → List Nat} {W : Nat → List (Int × Int)} {G : Nat}, A.ok → Nds A m L W → 1 ≤ s → s + c ≤ m + 1 → Sws mark A ((List.range' s c).map fun n : Nat => (n : Int)) A' G → A'.ok ∧ Nds A' m (tkS mark W L s c) (tkS mark W W s c)
  | 0, s, A, A', L, W, G, hok, h, _, _, hs => by
    obtain ⟨rfl, _⟩ := hs
    exact ⟨hok, h.congr (fun i _ _ => by unfold tkS; rw [if_neg (by omega)]) (fun i _ _ => by unfold tkS; rw [if_neg (by omega)])⟩
  | c + 1, s, A, A', L, W, G, hok, h, h1, h2, hs => by
    rw [List.range'_succ, List.map_cons] at hs
    obtain ⟨l, g2, hc, hs2, _⟩ := hs
    rw [Int.toNat_natCast] at hs2
    have f := h.fr s h1 (by omega)
    have hl : l = L s := by
      refine hc.uniq (.inl ⟨by unfold lvI; rw [Int.toNat_natCast, f.lv]; simp, ?_⟩)
      rw [Int.toNat_natCast]; exact f.ch
    subst hl
    have ok2 := swpA_ok hok (mark := mark) f.lv f.ch.live
    obtain ⟨q1, q2⟩ := Nds.sws mark c (s + 1) ok2 (h.swp hok h1 (by omega) mark) (by omega) (by omega) hs2
    refine ⟨q1, q2.congr (fun i _ _ => ?_) (fun i _ _ => ?_)⟩
    · unfold tkS
      by_cases e : i = s
      · subst e
        rw [if_pos (by omega), if_neg (by omega), up1_same]
      · rw [up1_other _ _ e, up1_other _ _ e]
        by_cases q : s + 1 ≤ i ∧ i < s + 1 + c
        · rw [if_pos (by omega), if_pos q]
        · rw [if_neg (by omega), if_neg q]
    · unfold tkS
      by_cases e : i = s
      · subst e
        rw [if_pos (by omega), if_neg (by omega), up1_same]
      · rw [up1_other _ _ e]
        by_cases q : s + 1 ≤ i ∧ i < s + 1 + c
        · rw [if_pos (by omega), if_pos q]
        · rw [if_neg (by omega), if_neg q]
/-- Where all stays nothing goes. -/
theorem Nds.still (mark : Int) : ∀ (c s : Nat) {A A' : Stt} {L : Nat → List Nat} {W : Nat → List (Int × Int)} {G : Nat}, Nds A m L W → (∀ i, 1 ≤ i → i ≤ m → kp mark (W i) = (W i).length) → 1 ≤ s → s + c ≤ m + 1 → Sws mark A ((List.range' s c).map fun n : Nat => (n : Int)) A' G → A' = A ∧ G = 0
  | 0, s, A, A', L, W, G, h, _, _, _, hs => hs
  | c + 1, s, A, A', L, W, G, h, hst, h1, h2, hs => by
    rw [List.range'_succ, List.map_cons] at hs
    obtain ⟨l, g2, hc, hs2, hg⟩ := hs
    rw [Int.toNat_natCast] at hs2
    have f := h.fr s h1 (by omega)
    have hl : l = L s := by
      refine hc.uniq (.inl ⟨by unfold lvI; rw [Int.toNat_natCast, f.lv]; simp, ?_⟩)
      rw [Int.toNat_natCast]; exact f.ch
    subst hl
    have hk : kp mark ((L s).map (pr A)) = (L s).length := by
      have := hst s h1 (by omega)
      rw [← h.wd s h1 (by omega)] at this
      rw [this, List.length_map]
    have e2 : swpA mark A s (L s) = A := by unfold swpA; rw [if_pos hk]
    rw [e2] at hs2
    obtain ⟨r1, r2⟩ := Nds.still mark c (s + 1) h hst (by omega) (by omega) hs2
    have e3 : goneN mark A (L s) = 0 := by unfold goneN; rw [hk]; omega
    exact ⟨r1, by omega⟩
/-- Who reads at the mark or later sees the same. -/
theorem Nds.seen (mark at_ : Int) (hm : mark ≤ at_) (ha : mark < 1099511627776) {n : Nat} (h : Nds A m L W) (h' : Nds A' m (tkS mark W L 1 m) (tkS mark W W 1 m)) (h1 : 1 ≤ n) (h2 : n ≤ m) (hr : Rd mark (W n)) : fs at_ ((tkS mark W L 1 m n).map (vp A')) = fs at_ ((L n).map (vp A)) := by
  have e1 : tkS mark W L 1 m n = (L n).take (kp mark (W n)) := by unfold tkS; rw [if_pos (by omega)]
  have e2 : tkS mark W W 1 m n = (W n).take (kp mark (W n)) := by unfold tkS; rw [if_pos (by omega)]
  have w1 := h'.wd n h1 h2
  have w0 := h.wd n h1 h2
  rw [e1, e2] at w1
  have e3 : ((L n).take (kp mark (W n))).map (vp A') = ((L n).take (kp mark (W n))).map (vp A) := by
    refine List.map_congr_left fun v hv => ?_
    have e4 : ((L n).take (kp mark (W n))).map (pr A') = ((L n).take (kp mark (W n))).map (pr A) := by rw [w1, ← w0, List.map_take]
    have e5 := List.map_inj_left.1 e4 v hv
    unfold vp
    rw [e5]
  have e6 : ((L n).map (vp A)).map (·.2) = W n := by rw [List.map_map, ← w0]; rfl
  rw [e1, e3, List.map_take]
  have := fs_take hm ha ((L n).map (vp A)) (by rw [e6]; exact hr)
  rw [e6] at this
  exact this
theorem OrdW.rd {W : List (Int × Int)} (h : OrdW W) (mark : Int) : Rd mark W := h.2.imp (fun {p q} e z => by omega)
end
end
end Go.Proofs.YtfhcphgjaobnoaaDoor
