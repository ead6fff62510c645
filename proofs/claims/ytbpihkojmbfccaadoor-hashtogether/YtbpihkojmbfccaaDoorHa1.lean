/-
  The table in memory.
-/
import Derived.Test.YtbpihkojmbfccaaDoorHa0
import Derived.Test.YtbpihkojmbfccaaDoorHaS
import Derived.Test.YtbpihkojmbfccaaDoorShelf9
import Derived.Maps.Views
import Derived.Lib.SliceRun
set_option linter.unusedVariables false
set_option linter.unusedSimpArgs false
namespace Go.Proofs.YtbpihkojmbfccaaDoor
open Go.RowKit Go.Maps

/-- What a map's element is: any value. -/
def RVh (v : Value) : Option (DataW Value × List MemPlace) := some (.held v, [])
def enV (e : En) : Value := .agg #[.string e.k, .int .i64 e.r]
theorem cellKeyed : Keyed Tryd.prog 3 := int_keyed Tryd.underlying3

/-- The map's entries are the keys of all chains. -/
structure Md (D : DataW Value) (L : List En) : Prop where
  is : IsMap D
  get : ∀ e ∈ L, ∀ z, D.atKey (.int .i64 (e.c : Int)) z = .held (enV e)
  has : ∀ e ∈ L, Maps.has D (.int .i64 (e.c : Int)) = true
  only : ∀ kl, Maps.has D kl = true → ∃ e ∈ L, kl = .int .i64 (e.c : Int)

/-- The table's own cells. -/
def Tk4 (w : World) (tb d : Nat) (hv : Value) (mb : Nat) (sv : Value) : Prop :=
  w.heap[tb]? = some (.cells #[.pointer (some ⟨d, 0, none⟩), hv, .map (some mb), sv] 74 (0, 0))
section
variable {w w' : World} {tb d mb : Nat} {hv sv : Value}
theorem Tk4.lt (h : Tk4 w tb d hv mb sv) : tb < w.heap.size := (Array.getElem?_eq_some_iff.1 h).1
theorem Tk4.cells (h : Tk4 w tb d hv mb sv) : w.cell? ⟨tb, 0, none⟩ = some (.pointer (some ⟨d, 0, none⟩)) ∧ w.cell? ⟨tb, 1, none⟩ = some hv ∧ w.cell? ⟨tb, 2, none⟩ = some (.map (some mb)) ∧ w.cell? ⟨tb, 3, none⟩ = some sv := by
  unfold Tk4 at h
  refine ⟨?_, ?_, ?_, ?_⟩ <;> (rw [Go.Joins.cell_of_block h]; rfl)
theorem Tk4.free (h : Tk4 w tb d hv mb sv) (i : Nat) : w.frozen? ⟨tb, i, none⟩ = false := Go.Joins.unfrozen_of_block h i
theorem Tk4.same (h : Tk4 w tb d hv mb sv) (e : w'.heap[tb]? = w.heap[tb]?) : Tk4 w' tb d hv mb sv := e.trans h
theorem Tk4.set (h : Tk4 w tb d hv mb sv) (v : Value) : Tk4 (w.setCell ⟨tb, 3, none⟩ v) tb d hv mb v := by
  unfold Tk4 at *
  rw [Go.Joins.block_setCell h]; rfl
end

/-- A table in memory: its own blocks are among K's. -/
structure Hm (w : World) (K : Nat → Prop) (tb d g hb hc mb : Nat) (sv : Value) (D : DataW Value) (T : List Bool) (N : List Int) (m : Int) (F : List Nat) (s : Tb) : Prop where
  aw : Aw w d g T N m F
  tk : Tk4 w tb d (.slice (some ⟨hb, 0, none⟩) s.hd.length hc) mb sv
  hd : Hr w 0 (.slice (some ⟨hb, 0, none⟩) s.hd.length hc) s.hd
  mp : w.ownsMap Tryd.prog 3 RVh mb s.all.length D
  md : Md D s.all
  sp : Hr w 0 sv s.sp
  ap : sv.ownBlock ≠ some hb
  tab : Tab w
  k0 : ¬ K 0
  kk : ∀ j, (j = tb ∨ j = d ∨ j = g ∨ j = hb ∨ j = mb ∨ sv.ownBlock = some j) → K j
  kl : ∀ j, K j → j < w.heap.size

section
variable {w w' : World} {K : Nat → Prop} {tb d g hb hc mb : Nat} {sv : Value} {D : DataW Value} {T : List Bool} {N : List Int} {m : Int} {F : List Nat} {s : Tb}
theorem map_kind {b n : Nat} (h : w.ownsMap Tryd.prog 3 RVh b n D) : ∃ es clock, w.heap[b]? = some (.map es clock) := by
  obtain ⟨es, clock, hb, _⟩ := h
  exact ⟨es, clock, hb⟩
theorem Hm.ne (h : Hm w K tb d g hb hc mb sv D T N m F s) : (tb ≠ d ∧ tb ≠ g ∧ tb ≠ hb ∧ tb ≠ mb ∧ d ≠ g ∧ d ≠ hb ∧ d ≠ mb ∧ g ≠ hb ∧ g ≠ mb ∧ hb ≠ mb) ∧ ∀ j, sv.ownBlock = some j → j ≠ tb ∧ j ≠ d ∧ j ≠ g ∧ j ≠ hb ∧ j ≠ mb := by
  have h1 := h.tk
  have h2 := h.aw.ab.2.2
  have h3 := h.aw.nb
  obtain ⟨c4, f4, h4⟩ := h.hd.kind (j := hb) rfl
  obtain ⟨c5, f5, h5⟩ := map_kind h.mp
  unfold Tk4 at h1
  unfold Nb at h3
  refine ⟨⟨?_, ?_, ?_, ?_, h.aw.ne, ?_, ?_, ?_, ?_, ?_⟩, fun j hj => ?_⟩
  · rintro rfl; rw [h1] at h2; simp at h2
  · rintro rfl; rw [h1] at h3; simp at h3
  · rintro rfl; rw [h1] at h4; simp at h4
  · rintro rfl; rw [h1] at h5; simp at h5
  · rintro rfl; rw [h2] at h4; simp at h4
  · rintro rfl; rw [h2] at h5; simp at h5
  · rintro rfl; rw [h3] at h4; simp at h4
  · rintro rfl; rw [h3] at h5; simp at h5
  · rintro rfl; rw [h4] at h5; simp at h5
  · obtain ⟨c6, f6, h6⟩ := h.sp.kind hj
    refine ⟨?_, ?_, ?_, ?_, ?_⟩
    · rintro rfl; rw [h1] at h6; simp at h6
    · rintro rfl; rw [h2] at h6; simp at h6
    · rintro rfl; rw [h3] at h6; simp at h6
    · rintro rfl; exact h.ap hj
    · rintro rfl; rw [h5] at h6; simp at h6
theorem own_fr {G : Nat → Prop} {b n : Nat} (h : w.ownsMap Tryd.prog 3 RVh b n D) (k : Fr G w w') (hb : ¬ G b) : w'.ownsMap Tryd.prog 3 RVh b n D := by
  obtain ⟨es, clock, h1, h2⟩ := h
  exact ⟨es, clock, (k.block b (Array.getElem?_eq_some_iff.1 h1).1 hb).trans h1, h2⟩
/-- What is done elsewhere leaves the table as it is. -/
theorem Hm.keep {G : Nat → Prop} (h : Hm w K tb d g hb hc mb sv D T N m F s) (k : Fr G w w') (hG : ∀ j, K j → ¬ G j) (h0 : ¬ G 0) : Hm w' K tb d g hb hc mb sv D T N m F s :=
  ⟨h.aw.fr k (hG d (h.kk d (by simp))) (hG g (h.kk g (by simp))), h.tk.same (k.block tb h.tk.lt (hG tb (h.kk tb (by simp)))), hrow_fr h.hd k (fun j e => hG j (h.kk j (by cases e; simp))),
   own_fr h.mp k (hG mb (h.kk mb (by simp))), h.md, hrow_fr h.sp k (fun j e => hG j (h.kk j (by simp [e]))), h.ap, h.tab.fr k h0, h.k0, h.kk, fun j hj => Nat.lt_of_lt_of_le (h.kl j hj) k.size⟩
/-- What was done to the arena alone. -/
theorem Hm.arena {T' : List Bool} {N' : List Int} {m' : Int} {F' : List Nat} (h : Hm w K tb d g hb hc mb sv D T N m F s) (k : Fr (fun j => j = d ∨ j = g) w w') (ha : Aw w' d g T' N' m' F') : Hm w' K tb d g hb hc mb sv D T' N' m' F' s := by
  obtain ⟨⟨n1, n2, n3, n4, n5, n6, n7, n8, n9, n10⟩, n11⟩ := h.ne
  refine ⟨ha, h.tk.same (k.block tb h.tk.lt (by simp; exact ⟨n1, n2⟩)), hrow_fr h.hd k (fun j e => ?_), own_fr h.mp k (by simp; exact ⟨Ne.symm n7, Ne.symm n9⟩), h.md, hrow_fr h.sp k (fun j e => ?_), h.ap, h.tab.fr k ?_, h.k0, h.kk, fun j hj => Nat.lt_of_lt_of_le (h.kl j hj) k.size⟩
  · cases e; simp; exact ⟨Ne.symm n6, Ne.symm n8⟩
  · have := n11 j e; simp; exact ⟨this.2.1, this.2.2.1⟩
  · rintro (e | e)
    · exact h.k0 (h.kk 0 (by simp [e]))
    · exact h.k0 (h.kk 0 (by simp [e]))

/-! ### Small functions -/
set_option maxHeartbeats 400000 in
theorem isNone_nil (w : World) : Calls Tryd.prog 27 #[.pointer none] w fun e w' => e = .returned (.bool true) ∧ w' = w := by
  go_enter Tryd.func27, Tryd.ntmps27
  go_wp2
  go_ret
  exact ⟨rfl, rfl⟩
set_option maxHeartbeats 400000 in
theorem isNone_raw {ao : Option Addr} {n cap : Nat} (h : Tk4 w tb d (.slice ao n cap) mb sv) (hn : 1 ≤ n) : Calls Tryd.prog 27 #[.pointer (some ⟨tb, 0, none⟩)] w fun e w' => e = .returned (.bool false) ∧ w' = w := by
  obtain ⟨c0, c1, c2, c3⟩ := h.cells
  have hd : ((n : Int) == 0) = false := by simp; omega
  have hd2 : ¬ n = 0 := by omega
  go_enter Tryd.func27, Tryd.ntmps27
  go_wp2
  go_ret
  exact ⟨rfl, rfl⟩
theorem Hm.isNone (h : Hm w K tb d g hb hc mb sv D T N m F s) (hn : 1 ≤ s.hd.length) : Calls Tryd.prog 27 #[.pointer (some ⟨tb, 0, none⟩)] w fun e w' => e = .returned (.bool false) ∧ w' = w := isNone_raw h.tk hn

/-- May a text be a key? -/
def good (k : ByteArray) : Bool := decide (1 ≤ k.size) && decide (k.size ≤ 16)
set_option maxHeartbeats 400000 in
theorem mayBe_any (k : ByteArray) (hk : k.size ≤ maxLen) (w : World) : Calls Tryd.prog 31 #[.string k] w fun e w' => e = .returned (.bool (good k)) ∧ w' = w := by
  unfold good
  unfold maxLen at hk
  by_cases h1 : 1 ≤ k.size
  · by_cases h2 : k.size ≤ 16
    · have d1 : decide ((1 : Int) ≤ (k.size : Int)) = true := by simp; omega
      have d2 : decide ((k.size : Int) ≤ 16) = true := by simp; omega
      have e : (decide (1 ≤ k.size) && decide (k.size ≤ 16)) = true := by simp; omega
      rw [e]
      go_enter Tryd.func31, Tryd.ntmps31
      go_wp2
      go_ret
      exact ⟨rfl, rfl⟩
    · have d1 : decide ((1 : Int) ≤ (k.size : Int)) = true := by simp; omega
      have d2 : decide ((k.size : Int) ≤ 16) = false := by simp; omega
      have e : (decide (1 ≤ k.size) && decide (k.size ≤ 16)) = false := by simp; omega
      rw [e]
      go_enter Tryd.func31, Tryd.ntmps31
      go_wp2
      go_ret
      exact ⟨rfl, rfl⟩
  · have d1 : decide ((1 : Int) ≤ (k.size : Int)) = false := by simp; omega
    have e : (decide (1 ≤ k.size) && decide (k.size ≤ 16)) = false := by simp; omega
    rw [e]
    go_enter Tryd.func31, Tryd.ntmps31
    go_wp2
    go_ret
    exact ⟨rfl, rfl⟩

set_option maxRecDepth 100000 in
set_option maxHeartbeats 1000000 in
theorem behind_raw {c : Int} {v x : Int} {R : World → Prop} (h : Tk4 w tb d (.slice (some ⟨hb, 0, none⟩) s.hd.length hc) mb sv) (hv : 0 ≤ v ∧ v ≤ 65536)
    (hl : Calls Tryd.prog 66 #[.pointer (some ⟨d, 0, none⟩), .int .i64 c] w fun e w' => e = .returned (.tuple #[.int .u64 v, .int .i64 0]) ∧ R w') :
    Calls Tryd.prog 45 #[.pointer (some ⟨tb, 0, none⟩), .int .i64 c] w fun e w' => e = .returned (.tuple #[.int .i64 (v - 1), .bool (decide (v ≠ 0))]) ∧ R w' := by
  obtain ⟨c0, c1, c2, c3⟩ := h.cells
  have HL := hide2 hl
  have hw : IntKind.i64.wrap v = v := by rw [IntKind.wrap_i64]; omega
  have hw2 : IntKind.i64.wrap (v - 1) = v - 1 := by rw [IntKind.wrap_i64]; omega
  clear hl
  go_enter Tryd.func45, Tryd.ntmps45
  go_wp2_with fail
  refine HL.out.mono ?_
  rintro e w' ⟨rfl, hR⟩
  clear HL
  go_wp2
  go_ret2
  refine ⟨?_, hR⟩
  by_cases e : v = 0 <;> simp [e]

theorem tk_of {c : Nat} (h : T.getD c false = true) : tk T (c : Int) = true := by
  unfold tk
  rw [show (c : Int).toNat = c from rfl, h]
  simp

/-- behind: what stands behind a cell. -/
theorem Hm.behind (h : Hm w K tb d g hb hc mb sv D T N m F s) {c : Nat} (hc1 : T.getD c false = true) (hv : N.getD c 0 ≤ 65536) (hm : 0 ≤ m ∧ m < 4611686018427387904) :
    Calls Tryd.prog 45 #[.pointer (some ⟨tb, 0, none⟩), .int .i64 (c : Int)] w fun e w' => e = .returned (.tuple #[.int .i64 (N.getD c 0 - 1), .bool (decide (N.getD c 0 ≠ 0))]) ∧ Hm w' K tb d g hb hc mb sv D T N (m + 1) F s ∧ Fr (fun j => j = d ∨ j = g) w w' := by
  refine behind_raw (x := 0) h.tk ⟨(h.aw.num c).1, hv⟩ ((Load_any h.aw (c : Int) hm).mono ?_)
  rintro e w' ⟨v, x, rfl, hD⟩
  obtain ⟨rfl, rfl, hA⟩ := hD.yes (tk_of hc1)
  have e1 : (act 1 0 0 (N.getD (c : Int).toNat 0)) = (N.getD c 0, N.getD c 0) := by simp [act]
  rw [e1] at hA ⊢
  have hl := getD_lt hc1
  have := h.aw.len
  rw [show N.set (c : Int).toNat (N.getD c 0) = N from set_self N c (by omega)] at hA
  exact ⟨rfl, h.arena hD.fr hA, hD.fr⟩

set_option maxRecDepth 100000 in
set_option maxHeartbeats 1000000 in
/-- isSpare. -/
theorem Hm.isSpare (h : Hm w K tb d g hb hc mb sv D T N m F s) (c : Int) :
    Calls Tryd.prog 47 #[.pointer (some ⟨tb, 0, none⟩), .int .i64 c] w fun e w' => e = .returned (.bool ((s.sp.map fun c : Nat => (c : Int)).contains c)) ∧ w' = w := by
  obtain ⟨c0, c1, c2, c3⟩ := h.tk.cells
  obtain ⟨ao, cap, rfl, hs⟩ := h.sp.seq
  have HC := hide2 (hContains_any hs c)
  generalize (s.sp.map fun c : Nat => (c : Int)).contains c = b at HC ⊢
  clear hs h
  go_enter Tryd.func47, Tryd.ntmps47
  go_wp2_with fail
  refine HC.out.mono ?_
  rintro e w' ⟨rfl, rfl⟩
  go_wp2
  go_ret
  exact ⟨rfl, rfl⟩

set_option maxRecDepth 100000 in
set_option maxHeartbeats 1000000 in
/-- anySpare. -/
theorem Hm.anySpare (h : Hm w K tb d g hb hc mb sv D T N m F s) :
    Calls Tryd.prog 49 #[.pointer (some ⟨tb, 0, none⟩)] w fun e w' => e = .returned (.int .i64 (match s.sp with | [] => -1 | c :: _ => (c : Int))) ∧ w' = w := by
  obtain ⟨c0, c1, c2, c3⟩ := h.tk.cells
  cases hs : s.sp with
  | nil =>
    obtain ⟨ao, cap, e1⟩ := h.sp.form
    rw [hs] at e1
    subst e1
    clear h
    show Calls _ _ _ _ fun e w' => e = .returned (.int .i64 (-1)) ∧ w' = w
    go_enter Tryd.func49, Tryd.ntmps49
    go_wp2
    go_ret
    exact ⟨rfl, rfl⟩
  | cons x xs =>
    obtain ⟨gg, cap, e1, hx⟩ := h.sp.at (i := 0) (by rw [hs]; simp)
    rw [hs] at e1 hx
    subst e1
    simp only [List.length_cons] at c3
    have hx2 : w.cell? ⟨gg, 0, none⟩ = some (.int .i64 (x : Int)) := by simpa using hx
    have hl : 0 < xs.length + 1 := by omega
    have hl2 : ((xs.length + 1 : Nat) : Int) ≠ 0 := by omega
    clear h hx hs
    show Calls _ _ _ _ fun e w' => e = .returned (.int .i64 (x : Int)) ∧ w' = w
    generalize xs.length + 1 = n at c3 hl hl2
    have hl3 : ((n : Int) == 0) = false := by simpa using hl2
    have hl4 : (0 : Int) < (n : Int) := by omega
    go_enter Tryd.func49, Tryd.ntmps49
    go_wp2
    go_ret
    exact ⟨rfl, rfl⟩
end
end Go.Proofs.YtbpihkojmbfccaaDoor
