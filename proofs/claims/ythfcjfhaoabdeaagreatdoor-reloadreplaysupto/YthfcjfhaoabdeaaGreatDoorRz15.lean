/-
  Rk1: Commits and their writes in memory: slices that are read, rows that a call has made, append. (Printed by gen_rk.py.)
-/
import Derived.Test.YthfcjfhaoabdeaaGreatDoorRz12
import Derived.Test.YthfcjfhaoabdeaaGreatDoorRz3
import Derived.Test.YthfcjfhaoabdeaaGreatDoorRz14
import Derived.Test.YthfcjfhaoabdeaaGreatDoorRz8
import Derived.BigQuiet
import Derived.Deep.QuietTactic
set_option linter.unusedVariables false
set_option linter.unusedSimpArgs false
namespace Go.Proofs.YthfcjfhaoabdeaaGreatDoor
open Go.RowKit
open ML (addr_add2 cell_two_new cell_three_new)
attribute [local go_sem] Oper.semAt_some
abbrev KS (w : World) (ao : Option Addr) (len cap : Nat) (l : List Kc) : Prop := Seq 2 Kc.cl w ao len cap l
abbrev Wr.cl (x : Wr) : List Value := [.string x.key, .string x.val, .bool x.gone]
abbrev WS (w : World) (ao : Option Addr) (len cap : Nat) (l : List Wr) : Prop := Seq 3 Wr.cl w ao len cap l
def kc (l : List Kc) : List Value := l.flatMap Kc.cl
theorem kc_len (l : List Kc) : (kc l).length = l.length * 2 := by
  induction l with
  | nil => rfl
  | cons p l ih => simp only [kc, List.flatMap_cons, List.length_append, List.length_cons, List.length_nil] at *; omega
theorem kc_append (l m : List Kc) : kc (l ++ m) = kc l ++ kc m := by simp [kc]
theorem kc_at : ∀ (l : List Kc) (i : Nat) (r : Kc), l[i]? = some r → ∀ j u, r.cl[j]? = some u → (kc l)[i * 2 + j]? = some u := by
  intro l
  induction l with
  | nil => intro i r h; cases h
  | cons q l ih =>
    intro i r h j u hu
    have hj : j < 2 := (List.getElem?_eq_some_iff.1 hu).1
    have e : kc (q :: l) = q.cl ++ kc l := rfl
    cases i with
    | zero =>
      cases h
      rw [e, List.getElem?_append_left (by simp; omega)]
      simpa using hu
    | succ i =>
      rw [e, List.getElem?_append_right (by simp; omega)]
      have := ih i r (by simpa using h) j u hu
      have e2 : (i + 1) * 2 + j - q.cl.length = i * 2 + j := by simp; omega
      rw [e2]
      exact this
theorem kc_one (l : List Kc) : ∀ u ∈ kc l, u.oneCell' = true := by
  intro u hu
  obtain ⟨p, _, hp⟩ := List.mem_flatMap.1 hu
  simp at hp
  rcases hp with rfl | rfl <;> rfl
abbrev Kr (w : World) (B : Nat) (v : Value) (l : List Kc) : Prop := w.ownsRow B 27 2 v l.length (kc l)
theorem Kr.seq {w : World} {B : Nat} {v : Value} {l : List Kc} (h : Kr w B v l) : ∃ ao cap, v = .slice ao l.length cap ∧ KS w ao l.length cap l := by
  rcases h.2 with ⟨rfl, h0⟩ | ⟨g, cap, cur, rfl, hB, hh, hle, hm, hsz, htk⟩
  · exact ⟨none, 0, by rw [h0], rfl, by omega, Nat.zero_le _, fun q => by omega⟩
  · refine ⟨_, cap, rfl, rfl, hle, hm, fun q => ⟨g, 0, rfl, (Array.getElem?_eq_some_iff.1 hh).1, fun i r hi j u hu => ?_⟩⟩
    have hil := (List.getElem?_eq_some_iff.1 hi).1
    have hj : j < 2 := (List.getElem?_eq_some_iff.1 hu).1
    have h1 := World.ownsRow.cellAt h (i * 2 + j) (by omega)
    have e : (0 + i * 2 + j) = i * 2 + j := by omega
    rw [e, h1]
    exact kc_at l i r hi j u hu
theorem Kr.keep {w w' : World} {B : Nat} {v : Value} {l : List Kc} (h : Kr w B v l) (hb : Below w.heap.size w w') : Kr w' B v l := by
  refine ⟨h.1, ?_⟩
  rcases h.2 with q | ⟨g, cap, cur, e, hB, hh, r⟩
  · exact .inl q
  · exact .inr ⟨g, cap, cur, e, hB, (hb.block g (Array.getElem?_eq_some_iff.1 hh).1).trans hh, r⟩
theorem infoKc : (Tryz.prog.info? 27).map (fun i => (i.zero, i.size, i.bytes)) = some (some (.agg #[.int .i64 0, .slice none 0 0]), 2, 32) := by kernel_rfl
def Svk (w : World) (x : Value) (m : List Kc) : Prop :=
  (x = .slice none 0 0 ∧ m = []) ∨ ∃ ad c, x = .slice (some ad) m.length c ∧ ∀ j u, (kc m)[j]? = some u → w.cell? (ad.add j) = some u
theorem Svk.keep {w w' : World} {x : Value} {m : List Kc} (h : Svk w x m) (hb : Below w.heap.size w w') : Svk w' x m := by
  rcases h with q | ⟨ad, c, e, hc⟩
  · exact .inl q
  · refine .inr ⟨ad, c, e, fun j u hu => ?_⟩
    have h1 := hc j u hu
    exact (hb.cell (p := ad.add j) (World.block_lt_of_cell? w _ h1)).trans h1
section
variable {w : World} {B : Nat} {v : Value} {x : Value}
theorem kapp {l m : List Kc} (h : Kr w B v l) (hB : B ≤ w.heap.size) (hs : Svk w x m) (hl : l.length + m.length ≤ 1000000000) :
    ∃ v' w', (Builtin.append_ #[23, 23] 23 #[v, x]).run Tryz.prog w = .ok v' w' ∧ Kr w' B v' (l ++ m) ∧ (∀ a n, n ≤ B → Below n a w → Below n a w') ∧ w.heap.size ≤ w'.heap.size := by
  obtain ⟨i0, hi0, z0, z1, z2⟩ := info_parts infoKc
  rcases hs with ⟨rfl, rfl⟩ | ⟨ad, c, rfl, hc⟩
  · refine ⟨v, w, run_append_owned_none (P := Tryz.prog) (w := w) B 23 23 27 i0 2 Tryz.underlying23 hi0 v _ _ h, by rw [List.append_nil]; exact h, fun _ _ _ hb => hb, Nat.le_refl _⟩
  · obtain ⟨v', w', hr, ho, hg, _, _⟩ := run_append_own_at (P := Tryz.prog) w B 23 23 27 i0 _ 2 32 Tryz.underlying23 hi0 z0 z1 z2 rfl (by decide) v _ _ h ad m.length c (kc m) (kc_len m) hc (kc_one m) (by unfold maxLen; omega) (by omega) hB
    refine ⟨v', w', hr, ?_, fun a n hn hb => hb.grown hg (by omega) (fun k e => Nat.le_trans hn (World.ownsRow.lt h k e).1), hg.size⟩
    unfold Kr
    rw [List.length_append, kc_append]
    exact ho
theorem ks_cells {gl : List Kc} {ao : Option Addr} {len cap : Nat} (h : KS w ao len cap gl) (hl : 0 < len) : ∃ g off, ao = some ⟨g, off, none⟩ ∧ g < w.heap.size ∧ ∀ j u, (kc gl)[j]? = some u → w.cell? ⟨g, off + j, none⟩ = some u := by
  obtain ⟨g, off, e, hg, hc⟩ := h.2.2.2 hl
  refine ⟨g, off, e, hg, fun j u hu => ?_⟩
  have hj := (List.getElem?_eq_some_iff.1 hu).1
  rw [kc_len] at hj
  obtain ⟨r, hr⟩ := some_at (l := gl) (i := j / 2) (n := gl.length) rfl (by omega)
  obtain ⟨y, hy⟩ : ∃ y, r.cl[j % 2]? = some y := ⟨r.cl[j % 2]'(by simp; omega), List.getElem?_eq_getElem (by simp; omega)⟩
  have e1 := kc_at gl (j / 2) r hr (j % 2) y hy
  have e2 : j / 2 * 2 + j % 2 = j := by omega
  rw [e2, hu] at e1
  have e3 := hc (j / 2) r hr (j % 2) y hy
  have e4 : off + j / 2 * 2 + j % 2 = off + j := by omega
  rw [e4] at e3
  rw [e3, Option.some.inj e1]
theorem KS.sv {gl : List Kc} {ao : Option Addr} {len cap : Nat} (h : KS w ao len cap gl) (hn : ao = none → cap = 0) : Svk w (.slice ao len cap) gl := by
  have hl := h.1
  cases ao with
  | none =>
    have : len = 0 := by
      by_cases q : 0 < len
      · obtain ⟨g, off, e, _⟩ := h.2.2.2 q; cases e
      · omega
    exact .inl ⟨by rw [hn rfl, this], List.eq_nil_of_length_eq_zero (by omega)⟩
  | some ad =>
    refine .inr ⟨ad, cap, by rw [hl], fun j u hu => ?_⟩
    have hj := (List.getElem?_eq_some_iff.1 hu).1
    rw [kc_len] at hj
    obtain ⟨g, off, e, hg, hc⟩ := ks_cells h (by omega)
    cases e
    rw [addr_plus]
    exact hc j u hu
theorem svk_one (w : World) (c : Kc) : Svk (w.alloc (.cells #[.int .i64 c.t, .slice c.ao c.len c.cap] 27)) (.slice (some ⟨w.heap.size, 0, none⟩) 1 1) [c] :=
  .inr ⟨_, 1, rfl, ML.cell_two_new w _ _ _⟩
theorem KS.at {w : World} {ao : Option Addr} {len cap : Nat} {l : List Kc} (h : KS w ao len cap l) (hl : 0 < len) : ∃ g off, ao = some ⟨g, off, none⟩ ∧ g < w.heap.size ∧ ∀ i c, l[i]? = some c → w.cell? ⟨g, off + i * 2, none⟩ = some (.int .i64 c.t) ∧ w.cell? ⟨g, off + i * 2 + 1, none⟩ = some (.slice c.ao c.len c.cap) := by
  obtain ⟨g, off, e, hg, hc⟩ := h.2.2.2 hl
  exact ⟨g, off, e, hg, fun i r hr => ⟨hc i r hr 0 _ rfl, hc i r hr 1 _ rfl⟩⟩
theorem kr_nil (w : World) (B : Nat) : Kr w B (.slice none 0 0) [] := ⟨rfl, .inl ⟨rfl, rfl⟩⟩
end
def wrc (l : List Wr) : List Value := l.flatMap Wr.cl
theorem wrc_len (l : List Wr) : (wrc l).length = l.length * 3 := by
  induction l with
  | nil => rfl
  | cons p l ih => simp only [wrc, List.flatMap_cons, List.length_append, List.length_cons, List.length_nil] at *; omega
theorem wrc_append (l m : List Wr) : wrc (l ++ m) = wrc l ++ wrc m := by simp [wrc]
theorem wrc_at : ∀ (l : List Wr) (i : Nat) (r : Wr), l[i]? = some r → ∀ j u, r.cl[j]? = some u → (wrc l)[i * 3 + j]? = some u := by
  intro l
  induction l with
  | nil => intro i r h; cases h
  | cons q l ih =>
    intro i r h j u hu
    have hj : j < 3 := (List.getElem?_eq_some_iff.1 hu).1
    have e : wrc (q :: l) = q.cl ++ wrc l := rfl
    cases i with
    | zero =>
      cases h
      rw [e, List.getElem?_append_left (by simp; omega)]
      simpa using hu
    | succ i =>
      rw [e, List.getElem?_append_right (by simp; omega)]
      have := ih i r (by simpa using h) j u hu
      have e2 : (i + 1) * 3 + j - q.cl.length = i * 3 + j := by simp; omega
      rw [e2]
      exact this
theorem wrc_one (l : List Wr) : ∀ u ∈ wrc l, u.oneCell' = true := by
  intro u hu
  obtain ⟨p, _, hp⟩ := List.mem_flatMap.1 hu
  simp at hp
  rcases hp with rfl | rfl | rfl <;> rfl
/-- Rows that a call has made, from block B on. -/
abbrev Wo (w : World) (B : Nat) (v : Value) (l : List Wr) : Prop := w.ownsRow B 37 3 v l.length (wrc l)
theorem Wo.seq {w : World} {B : Nat} {v : Value} {l : List Wr} (h : Wo w B v l) : ∃ ao cap, v = .slice ao l.length cap ∧ WS w ao l.length cap l := by
  rcases h.2 with ⟨rfl, h0⟩ | ⟨g, cap, cur, rfl, hB, hh, hle, hm, hsz, htk⟩
  · exact ⟨none, 0, by rw [h0], rfl, by omega, Nat.zero_le _, fun q => by omega⟩
  · refine ⟨_, cap, rfl, rfl, hle, hm, fun q => ⟨g, 0, rfl, (Array.getElem?_eq_some_iff.1 hh).1, fun i r hi j u hu => ?_⟩⟩
    have hil := (List.getElem?_eq_some_iff.1 hi).1
    have hj : j < 3 := (List.getElem?_eq_some_iff.1 hu).1
    have h1 := World.ownsRow.cellAt h (i * 3 + j) (by omega)
    have e : (0 + i * 3 + j) = i * 3 + j := by omega
    rw [e, h1]
    exact wrc_at l i r hi j u hu
theorem infoWr : (Tryz.prog.info? 37).map (fun i => (i.zero, i.size, i.bytes)) = some (some (.agg #[.string .empty, .string .empty, .bool false]), 3, 40) := by kernel_rfl
/-- A slice of rows that may be appended. -/
def Svw (w : World) (x : Value) (m : List Wr) : Prop :=
  (x = .slice none 0 0 ∧ m = []) ∨ ∃ ad c, x = .slice (some ad) m.length c ∧ ∀ j u, (wrc m)[j]? = some u → w.cell? (ad.add j) = some u
/-- All its cells lie below. -/
theorem Svw.keep {w w' : World} {x : Value} {m : List Wr} (h : Svw w x m) (hb : Below w.heap.size w w') : Svw w' x m := by
  rcases h with q | ⟨ad, c, e, hc⟩
  · exact .inl q
  · refine .inr ⟨ad, c, e, fun j u hu => ?_⟩
    have h1 := hc j u hu
    exact (hb.cell (p := ad.add j) (World.block_lt_of_cell? w _ h1)).trans h1
section
variable {w : World} {B : Nat} {v : Value} {l m : List Wr} {x : Value}
theorem wapp (h : Wo w B v l) (hB : B ≤ w.heap.size) (hs : Svw w x m) (hl : l.length + m.length ≤ 1000000000) :
    ∃ v' w', (Builtin.append_ #[25, 25] 25 #[v, x]).run Tryz.prog w = .ok v' w' ∧ Wo w' B v' (l ++ m) ∧ (∀ a n, n ≤ B → Below n a w → Below n a w') ∧ w.heap.size ≤ w'.heap.size ∧ (∀ k, k < w.heap.size → v.ownBlock ≠ some k → w'.heap[k]? = w.heap[k]?) := by
  obtain ⟨i0, hi0, z0, z1, z2⟩ := info_parts infoWr
  rcases hs with ⟨rfl, rfl⟩ | ⟨ad, c, rfl, hc⟩
  · refine ⟨v, w, run_append_owned_none (P := Tryz.prog) (w := w) B 25 25 37 i0 3 Tryz.underlying25 hi0 v _ _ h, by rw [List.append_nil]; exact h, fun _ _ _ hb => hb, Nat.le_refl _, fun _ _ _ => rfl⟩
  · obtain ⟨v', w', hr, ho, hg, _, _⟩ := run_append_own_at (P := Tryz.prog) w B 25 25 37 i0 _ 3 40 Tryz.underlying25 hi0 z0 z1 z2 rfl (by decide) v _ _ h ad m.length c (wrc m) (wrc_len m) hc (wrc_one m) (by unfold maxLen; omega) (by omega) hB
    refine ⟨v', w', hr, ?_, fun a n hn hb => hb.grown hg (by omega) (fun k e => Nat.le_trans hn (World.ownsRow.lt h k e).1), hg.size, fun k hk hne => hg.block k hk (fun e => hne e.symm)⟩
    unfold Wo
    rw [List.length_append, wrc_append]
    exact ho
/-- The cells of a slice that is read. -/
theorem ws_cells {ao : Option Addr} {len cap : Nat} (h : WS w ao len cap l) (hl : 0 < len) : ∃ g off, ao = some ⟨g, off, none⟩ ∧ g < w.heap.size ∧ ∀ j u, (wrc l)[j]? = some u → w.cell? ⟨g, off + j, none⟩ = some u := by
  obtain ⟨g, off, e, hg, hc⟩ := h.2.2.2 hl
  refine ⟨g, off, e, hg, fun j u hu => ?_⟩
  have hj := (List.getElem?_eq_some_iff.1 hu).1
  rw [wrc_len] at hj
  obtain ⟨r, hr⟩ := some_at (l := l) (i := j / 3) (n := l.length) rfl (by omega)
  have hm : j % 3 < 3 := Nat.mod_lt _ (by decide)
  obtain ⟨y, hy⟩ : ∃ y, r.cl[j % 3]? = some y := ⟨r.cl[j % 3]'(by simp; omega), List.getElem?_eq_getElem (by simp; omega)⟩
  have e1 := wrc_at l (j / 3) r hr (j % 3) y hy
  have e2 : j / 3 * 3 + j % 3 = j := by omega
  rw [e2, hu] at e1
  have e3 := hc (j / 3) r hr (j % 3) y hy
  have e4 : off + j / 3 * 3 + j % 3 = off + j := by omega
  rw [e4] at e3
  rw [e3, Option.some.inj e1]
theorem WS.sv {ao : Option Addr} {len cap : Nat} (h : WS w ao len cap l) (hn : ao = none → cap = 0) : Svw w (.slice ao len cap) l := by
  have hl := h.1
  cases ao with
  | none =>
    have : len = 0 := by
      by_cases q : 0 < len
      · obtain ⟨g, off, e, _⟩ := h.2.2.2 q; cases e
      · omega
    exact .inl ⟨by rw [hn rfl, this], List.eq_nil_of_length_eq_zero (by omega)⟩
  | some ad =>
    refine .inr ⟨ad, cap, by rw [hl], fun j u hu => ?_⟩
    have hj := (List.getElem?_eq_some_iff.1 hu).1
    rw [wrc_len] at hj
    obtain ⟨g, off, e, hg, hc⟩ := ws_cells h (by omega)
    cases e
    rw [addr_plus]
    exact hc j u hu
theorem wo_empty (w : World) : Wo (w.alloc (.cells #[] 37)) w.heap.size (.slice (some ⟨w.heap.size, 0, none⟩) 0 0) [] :=
  ⟨rfl, .inr ⟨w.heap.size, 0, #[], rfl, Nat.le_refl _, heap_alloc_new _ _, Nat.le_refl _, Nat.zero_le _, rfl, rfl⟩⟩
end
end Go.Proofs.YthfcjfhaoabdeaaGreatDoor

/-
  Rm1: The document's done: a write on rows. (Printed by gen_rm1.py.)
-/
set_option linter.unusedVariables false
set_option linter.unusedSimpArgs false
namespace Go.Proofs.YthfcjfhaoabdeaaGreatDoor
open Go.RowKit
open ML (Ro RS Rr Sv nless hide2 rapp sv_one rr_nil take_snoc while_at below1 str_test)
attribute [local go_sem] Oper.semAt_some

theorem doneD_at {l : List Ro} {x : Wr} {t : Int} {k : Nat} (h1 : ∀ y ∈ l.take k, nless y.k x.key = true) (h2 : ∀ y, l[k]? = some y → nless y.k x.key = false) : doneD l x t = l.take k ++ (newR x t ++ cutK x.key (l.drop k)) := by
  obtain ⟨e1, e2⟩ := while_at (fun p : Ro => nless p.k x.key) l k h1 h2
  unfold doneD
  rw [e1, e2]
theorem cutK_yes {l : List Ro} {s : ByteArray} {k : Nat} {p : Ro} (h : l[k]? = some p) (e : p.k = s) : cutK s (l.drop k) = l.drop (k + 1) := by
  rw [drop_at h, cutK_cons, if_pos e]
theorem cutK_no {l : List Ro} {s : ByteArray} {k : Nat} {p : Ro} (h : l[k]? = some p) (e : ¬ p.k = s) : cutK s (l.drop k) = l.drop k := by
  rw [drop_at h, cutK_cons, if_neg e]
theorem cutK_end {l : List Ro} {s : ByteArray} {k : Nat} (h : l.length ≤ k) : cutK s (l.drop k) = l.drop k := by
  rw [List.drop_eq_nil_of_le h]; rfl
section
set_option maxHeartbeats 8000000
set_option maxRecDepth 100000
variable {w : World} {B : Nat} {v : Value} {l : List Ro}
theorem rdone_any (h : Rr w B v l) (hB : B ≤ w.heap.size) (hl : l.length ≤ 10000000) (x : Wr) (t : Int) :
    Calls Tryz.prog 28 #[v, .agg #[.string x.key, .string x.val, .bool x.gone], .int .i64 t] w fun e w' => ∃ v', e = .returned v' ∧ Rr w' B v' (doneD l x t) ∧ Below w.heap.size w w' := by
  obtain ⟨ao, cap, rfl, hs⟩ := h.seq
  have hcap := hs.2.1
  have hcm := hs.2.2.1
  unfold maxLen at hcm
  have hn : ao = none → cap = 0 := fun e => by
    subst e
    rcases h.2 with ⟨q, _⟩ | ⟨g, c, cur, q, _⟩
    · injection q
    · injection q with q1; cases q1
  obtain ⟨W0, hW0⟩ : ∃ W0, W0 = w.alloc (.cells #[.string x.key, .string x.val, .bool x.gone] 37) := ⟨_, rfl⟩
  have hb : W0.heap[w.heap.size]? = some (.cells #[.string x.key, .string x.val, .bool x.gone] 37 (0, 0)) := by rw [hW0]; exact heap_alloc_new _ _
  have q0 : W0.cell? ⟨w.heap.size, 0, none⟩ = some (.string x.key) := by rw [Go.Joins.cell_of_block hb]; rfl
  have q1 : W0.cell? ⟨w.heap.size, 1, none⟩ = some (.string x.val) := by rw [Go.Joins.cell_of_block hb]; rfl
  have q2 : W0.cell? ⟨w.heap.size, 2, none⟩ = some (.bool x.gone) := by rw [Go.Joins.cell_of_block hb]; rfl
  have B0 : Below w.heap.size w W0 := by rw [hW0]; exact below1 w _
  have hsz0 : W0.heap.size = w.heap.size + 1 := by rw [hW0]; simp
  have HS0 := hide2 (hs.keep B0)
  have HR0 := hide2 (ML.Rr.keep h B0)
  have HSV := hide2 (ML.RS.sv (hs.keep B0) hn)
  have HB0 := hide2 B0
  have hQ : Hid (W0.cell? ⟨w.heap.size, 0, none⟩ = some (.string x.key) ∧ W0.cell? ⟨w.heap.size, 1, none⟩ = some (.string x.val) ∧ W0.cell? ⟨w.heap.size, 2, none⟩ = some (.bool x.gone)) := hide2 ⟨q0, q1, q2⟩
  clear h hs hn B0 hb
  go_enter Tryz.func28, Tryz.ntmps28
  go_wp2_with fail
  rw [← hW0]
  clear hW0 q0 q1 q2
  go_wp2_with fail
  go_loopw [7, 8] (fun v i wr => ∃ k : Nat, k ≤ l.length ∧ i = .int .i64 (k : Nat) ∧ Hid (∀ y ∈ l.take k, nless y.k x.key = true) ∧ Hid (Rr wr W0.heap.size v (l.take k)) ∧ Hid (Below W0.heap.size W0 wr)) (fun _ i _ => l.length - (intOf i).toNat)
  case atStart => exact ⟨0, by omega, rfl, hide2 (fun y hy => by simp at hy), hide2 (rr_nil _ _), hide2 (Below.refl _ _)⟩
  case round =>
    obtain ⟨k, hk, rfl, HALL, HO, HB⟩ := hrel
    have hsz := HB.out.size
    have htl : (l.take k).length = k := by rw [List.length_take, Nat.min_eq_left hk]
    have q0 := (HB.out.cell (p := ⟨w.heap.size, 0, none⟩) (by show w.heap.size < _; omega)).trans hQ.out.1
    have q1 := (HB.out.cell (p := ⟨w.heap.size, 1, none⟩) (by show w.heap.size < _; omega)).trans hQ.out.2.1
    have q2 := (HB.out.cell (p := ⟨w.heap.size, 2, none⟩) (by show w.heap.size < _; omega)).trans hQ.out.2.2
    by_cases hgo : ∃ p, l[k]? = some p ∧ nless p.k x.key = true
    · obtain ⟨p, hp, hps⟩ := hgo
      have hkl := (List.getElem?_eq_some_iff.1 hp).1
      obtain ⟨g, off, rfl, hg, hc⟩ := ML.RS.at HS0.out (by omega)
      have c0 := (HB.out.cell (p := ⟨g, off + k * 3, none⟩) hg).trans (hc k p hp).1
      have c1 := (HB.out.cell (p := ⟨g, off + k * 3 + 1, none⟩) hg).trans (hc k p hp).2.1
      have c2 := (HB.out.cell (p := ⟨g, off + k * 3 + 2, none⟩) hg).trans (hc k p hp).2.2
      have HTS := hide2 (take_snoc hp)
      have hc2 : (k : Int) < (l.length : Int) := by omega
      have t1 : Op.bytesLess p.k.toList x.key.toList = true := hps
      have HA2 : Hid (∀ y ∈ l.take (k + 1), nless y.k x.key = true) := hide2 (fun y hy => by
        rw [HTS.out] at hy
        rcases List.mem_append.1 hy with hy | hy
        · exact HALL.out y hy
        · simp at hy; subst hy; exact hps)
      clear hc HALL hp hps
      go_wp2_with fail
      go_quiet (fail)
      go_wp2_with (at_builtin; refine Hid.out ?_)
      obtain ⟨v', w2, hrun, hown, hB2, hs2, _⟩ := rapp (w := (wr.drewN nq).alloc (.cells #[.string p.k, .string p.v, .int .i64 p.t] 33)) (World.ownsRow.alloc HO.out _) (by simp; omega) (sv_one (wr.drewN nq) p) (by rw [htl]; simp; omega)
      have HO2 : Hid (Rr w2 W0.heap.size v' (l.take (k + 1))) := hide2 (by rw [HTS.out]; exact hown)
      have HBW2 : Hid (Below W0.heap.size W0 w2) := hide2 (hB2 _ _ (Nat.le_refl _) ((below_drewN HB.out nq).alloc hsz _))
      have HRUN := hide2 hrun
      clear hrun hown hB2 HO HTS c0 c1 c2
      refine hide2 ?_
      refine Lib.wpList_append_run _ rfl _ _ _ _ rfl _ _ rfl rfl v' w2 HRUN.out ?_
      go_frame
      go_wp2_with fail
      go_roundw
      case rel => exact ⟨k + 1, by omega, by go_num, HA2, HO2, HBW2⟩
      case measure => simp [intOf]; omega
    · have hstop : ∀ y, l[k]? = some y → nless y.k x.key = false := fun y hy => by
        cases e : nless y.k x.key with
        | false => rfl
        | true => exact absurd ⟨y, hy, e⟩ hgo
      have HD := hide2 (doneD_at (t := t) HALL.out hstop)
      have hdl : ∀ j, (l.drop j).length ≤ 10000000 := fun j => by rw [List.length_drop]; omega
      clear HALL hgo
      by_cases hkl : k < l.length
      · obtain ⟨p, hp⟩ := some_at (l := l) (i := k) (n := l.length) rfl hkl
        obtain ⟨g, off, rfl, hg, hc⟩ := ML.RS.at HS0.out (by omega)
        have c0 := (HB.out.cell (p := ⟨g, off + k * 3, none⟩) hg).trans (hc k p hp).1
        have hc2 : (k : Int) < (l.length : Int) := by omega
        have t1 : Op.bytesLess p.k.toList x.key.toList = false := hstop p hp
        clear hc hstop
        by_cases hpe : p.k = x.key
        · have t2 : (p.k.toList == x.key.toList) = true := by rw [str_test]; simpa using hpe
          cases hg2 : x.gone with
          | true =>
            have HNEW : Hid (newR x t = []) := hide2 (by unfold newR; rw [hg2]; rfl)
            rw [hg2] at q2
            clear hg2
            obtain ⟨xv, hsl, hsv⟩ := HSV.out.from hcap (k + 1) (by omega)
            have HSL := hide2 hsl
            have HSVX := hide2 hsv
            clear hsl hsv
            have HFIN : Hid (doneD l x t = (l.take k ++ newR x t) ++ l.drop (k + 1)) := hide2 (by rw [HD.out, cutK_yes hp hpe, List.append_assoc])
            clear hp hpe
            clear HD
            go_wp2_with fail
            go_quiet (fail)
            revert nq; intro n1
            have hsl : ∀ u : World, (Instr.slice 22 (.slice (some ⟨g, off, none⟩) l.length cap) (some (.int .i64 ((k : Int) + 1))) none none).run Tryz.prog u = .ok xv u := fun u => HSL.out u
            go_wp2_with fail
            go_quiet (fail)
            go_wp2_with (at_builtin; refine Hid.out ?_)
            have hb2 : Below W0.heap.size W0 (wr.drewN (n1 + nq)) := below_drewN HB.out (n1 + nq)
            have hown : Rr (wr.drewN (n1 + nq)) W0.heap.size u7 (l.take k ++ newR x t) := by rw [HNEW.out, List.append_nil]; exact HO.out
            obtain ⟨v3, w3, hrun3, hown3, hB3, hs4, _⟩ := rapp hown hb2.size (HSVX.out.keep hb2) (by rw [List.length_append, htl, HNEW.out]; have := hdl (k + 1); simp only [List.length_nil]; omega)
            have HO3 : Hid (Rr w3 B v3 (doneD l x t)) := hide2 (by rw [HFIN.out]; exact Go.Joins.ownsRow_le hown3 (by omega))
            have HBW3 : Hid (Below w.heap.size w w3) := hide2 (HB0.out.trans ((hB3 _ _ (Nat.le_refl _) hb2).mono (by omega)))
            have HRUN3 := hide2 hrun3
            clear hown HO hrun3 hown3 hB3 HFIN
            refine hide2 ?_
            refine Lib.wpList_append_run _ rfl _ _ _ _ rfl _ _ rfl rfl v3 w3 HRUN3.out ?_
            go_frame
            go_wp2
            go_ret
            exact ⟨_, rfl, HO3.out, HBW3.out⟩
          | false =>
            have HNEW : Hid (newR x t = [⟨x.key, x.val, t⟩]) := hide2 (by unfold newR; rw [hg2]; rfl)
            rw [hg2] at q2
            clear hg2
            obtain ⟨xv, hsl, hsv⟩ := HSV.out.from hcap (k + 1) (by omega)
            have HSL := hide2 hsl
            have HSVX := hide2 hsv
            clear hsl hsv
            have HFIN : Hid (doneD l x t = (l.take k ++ newR x t) ++ l.drop (k + 1)) := hide2 (by rw [HD.out, cutK_yes hp hpe, List.append_assoc])
            clear hp hpe
            clear HD
            go_wp2_with fail
            go_quiet (fail)
            revert nq; intro n1
            go_wp2_with fail
            go_quiet (fail)
            go_wp2_with (at_builtin; refine Hid.out ?_)
            have hb2 : Below W0.heap.size W0 (wr.drewN (n1 + nq)) := below_drewN HB.out (n1 + nq)
            obtain ⟨v4, w2, hrun, hown0, hB2, hs2, _⟩ := rapp (w := (wr.drewN (n1 + nq)).alloc (.cells #[.string x.key, .string x.val, .int .i64 t] 33)) (World.ownsRow.alloc HO.out _) (by simp; omega) (sv_one (wr.drewN (n1 + nq)) ⟨x.key, x.val, t⟩) (by rw [htl]; simp; omega)
            have hown : Rr w2 W0.heap.size v4 (l.take k ++ newR x t) := by rw [HNEW.out]; exact hown0
            have HBW2 : Hid (Below W0.heap.size W0 w2) := hide2 (hB2 _ _ (Nat.le_refl _) (hb2.alloc hsz _))
            have hs3 := HBW2.out.size
            obtain ⟨v3, w3, hrun3, hown3, hB3, hs4, _⟩ := rapp hown hs3 (HSVX.out.keep HBW2.out) (by rw [List.length_append, htl, HNEW.out]; have := hdl (k + 1); simp only [List.length_cons, List.length_nil]; omega)
            have HO3 : Hid (Rr w3 B v3 (doneD l x t)) := hide2 (by rw [HFIN.out]; exact Go.Joins.ownsRow_le hown3 (by omega))
            have HBW3 : Hid (Below w.heap.size w w3) := hide2 (HB0.out.trans ((hB3 _ _ (Nat.le_refl _) HBW2.out).mono (by omega)))
            have HRUN := hide2 hrun
            clear hrun hown0 hB2 HBW2
            have HRUN3 := hide2 hrun3
            have hsl : ∀ u : World, (Instr.slice 22 (.slice (some ⟨g, off, none⟩) l.length cap) (some (.int .i64 ((k : Int) + 1))) none none).run Tryz.prog u = .ok xv u := fun u => HSL.out u
            clear hown HO hrun3 hown3 hB3 HFIN
            refine hide2 ?_
            refine Lib.wpList_append_run _ rfl _ _ _ _ rfl _ _ rfl rfl v4 w2 HRUN.out ?_
            go_frame
            go_wp2_with (at_builtin; refine Hid.out ?_)
            refine hide2 ?_
            refine Lib.wpList_append_run _ rfl _ _ _ _ rfl _ _ rfl rfl v3 w3 HRUN3.out ?_
            go_frame
            go_wp2
            go_ret
            exact ⟨_, rfl, HO3.out, HBW3.out⟩
        · have t2 : (p.k.toList == x.key.toList) = false := by rw [str_test]; simpa using hpe
          cases hg2 : x.gone with
          | true =>
            have HNEW : Hid (newR x t = []) := hide2 (by unfold newR; rw [hg2]; rfl)
            rw [hg2] at q2
            clear hg2
            obtain ⟨xv, hsl, hsv⟩ := HSV.out.from hcap (k) (by omega)
            have HSL := hide2 hsl
            have HSVX := hide2 hsv
            clear hsl hsv
            have HFIN : Hid (doneD l x t = (l.take k ++ newR x t) ++ l.drop (k)) := hide2 (by rw [HD.out, cutK_no hp hpe, List.append_assoc])
            clear hp hpe
            clear HD
            go_wp2_with fail
            go_quiet (fail)
            revert nq; intro n1
            have hsl : ∀ u : World, (Instr.slice 22 (.slice (some ⟨g, off, none⟩) l.length cap) (some (.int .i64 ((k : Int)))) none none).run Tryz.prog u = .ok xv u := HSL.out
            go_wp2_with fail
            go_quiet (fail)
            go_wp2_with (at_builtin; refine Hid.out ?_)
            have hb2 : Below W0.heap.size W0 (wr.drewN (n1 + nq)) := below_drewN HB.out (n1 + nq)
            have hown : Rr (wr.drewN (n1 + nq)) W0.heap.size u7 (l.take k ++ newR x t) := by rw [HNEW.out, List.append_nil]; exact HO.out
            obtain ⟨v3, w3, hrun3, hown3, hB3, hs4, _⟩ := rapp hown hb2.size (HSVX.out.keep hb2) (by rw [List.length_append, htl, HNEW.out]; have := hdl (k); simp only [List.length_nil]; omega)
            have HO3 : Hid (Rr w3 B v3 (doneD l x t)) := hide2 (by rw [HFIN.out]; exact Go.Joins.ownsRow_le hown3 (by omega))
            have HBW3 : Hid (Below w.heap.size w w3) := hide2 (HB0.out.trans ((hB3 _ _ (Nat.le_refl _) hb2).mono (by omega)))
            have HRUN3 := hide2 hrun3
            clear hown HO hrun3 hown3 hB3 HFIN
            refine hide2 ?_
            refine Lib.wpList_append_run _ rfl _ _ _ _ rfl _ _ rfl rfl v3 w3 HRUN3.out ?_
            go_frame
            go_wp2
            go_ret
            exact ⟨_, rfl, HO3.out, HBW3.out⟩
          | false =>
            have HNEW : Hid (newR x t = [⟨x.key, x.val, t⟩]) := hide2 (by unfold newR; rw [hg2]; rfl)
            rw [hg2] at q2
            clear hg2
            obtain ⟨xv, hsl, hsv⟩ := HSV.out.from hcap (k) (by omega)
            have HSL := hide2 hsl
            have HSVX := hide2 hsv
            clear hsl hsv
            have HFIN : Hid (doneD l x t = (l.take k ++ newR x t) ++ l.drop (k)) := hide2 (by rw [HD.out, cutK_no hp hpe, List.append_assoc])
            clear hp hpe
            clear HD
            go_wp2_with fail
            go_quiet (fail)
            revert nq; intro n1
            go_wp2_with fail
            go_quiet (fail)
            go_wp2_with (at_builtin; refine Hid.out ?_)
            have hb2 : Below W0.heap.size W0 (wr.drewN (n1 + nq)) := below_drewN HB.out (n1 + nq)
            obtain ⟨v4, w2, hrun, hown0, hB2, hs2, _⟩ := rapp (w := (wr.drewN (n1 + nq)).alloc (.cells #[.string x.key, .string x.val, .int .i64 t] 33)) (World.ownsRow.alloc HO.out _) (by simp; omega) (sv_one (wr.drewN (n1 + nq)) ⟨x.key, x.val, t⟩) (by rw [htl]; simp; omega)
            have hown : Rr w2 W0.heap.size v4 (l.take k ++ newR x t) := by rw [HNEW.out]; exact hown0
            have HBW2 : Hid (Below W0.heap.size W0 w2) := hide2 (hB2 _ _ (Nat.le_refl _) (hb2.alloc hsz _))
            have hs3 := HBW2.out.size
            obtain ⟨v3, w3, hrun3, hown3, hB3, hs4, _⟩ := rapp hown hs3 (HSVX.out.keep HBW2.out) (by rw [List.length_append, htl, HNEW.out]; have := hdl (k); simp only [List.length_cons, List.length_nil]; omega)
            have HO3 : Hid (Rr w3 B v3 (doneD l x t)) := hide2 (by rw [HFIN.out]; exact Go.Joins.ownsRow_le hown3 (by omega))
            have HBW3 : Hid (Below w.heap.size w w3) := hide2 (HB0.out.trans ((hB3 _ _ (Nat.le_refl _) HBW2.out).mono (by omega)))
            have HRUN := hide2 hrun
            clear hrun hown0 hB2 HBW2
            have HRUN3 := hide2 hrun3
            have hsl : ∀ u : World, (Instr.slice 22 (.slice (some ⟨g, off, none⟩) l.length cap) (some (.int .i64 ((k : Int)))) none none).run Tryz.prog u = .ok xv u := HSL.out
            clear hown HO hrun3 hown3 hB3 HFIN
            refine hide2 ?_
            refine Lib.wpList_append_run _ rfl _ _ _ _ rfl _ _ rfl rfl v4 w2 HRUN.out ?_
            go_frame
            go_wp2_with (at_builtin; refine Hid.out ?_)
            refine hide2 ?_
            refine Lib.wpList_append_run _ rfl _ _ _ _ rfl _ _ rfl rfl v3 w3 HRUN3.out ?_
            go_frame
            go_wp2
            go_ret
            exact ⟨_, rfl, HO3.out, HBW3.out⟩
      · have hc2 : ¬ (k : Int) < (l.length : Int) := by omega
        clear hstop
        cases hg2 : x.gone with
        | true =>
          have HNEW : Hid (newR x t = []) := hide2 (by unfold newR; rw [hg2]; rfl)
          rw [hg2] at q2
          clear hg2
          obtain ⟨xv, hsl, hsv⟩ := HSV.out.from hcap (k) (by omega)
          have HSL := hide2 hsl
          have HSVX := hide2 hsv
          clear hsl hsv
          have HFIN : Hid (doneD l x t = (l.take k ++ newR x t) ++ l.drop (k)) := hide2 (by rw [HD.out, cutK_end (by omega), List.append_assoc])
          clear HD
          go_wp2_with fail
          go_quiet (fail)
          revert nq; intro n1
          have hsl : ∀ u : World, (Instr.slice 22 (.slice ao l.length cap) (some (.int .i64 ((k : Int)))) none none).run Tryz.prog u = .ok xv u := HSL.out
          go_wp2_with fail
          go_quiet (fail)
          go_wp2_with (at_builtin; refine Hid.out ?_)
          have hb2 : Below W0.heap.size W0 (wr.drewN (n1 + nq)) := below_drewN HB.out (n1 + nq)
          have hown : Rr (wr.drewN (n1 + nq)) W0.heap.size u7 (l.take k ++ newR x t) := by rw [HNEW.out, List.append_nil]; exact HO.out
          obtain ⟨v3, w3, hrun3, hown3, hB3, hs4, _⟩ := rapp hown hb2.size (HSVX.out.keep hb2) (by rw [List.length_append, htl, HNEW.out]; have := hdl (k); simp only [List.length_nil]; omega)
          have HO3 : Hid (Rr w3 B v3 (doneD l x t)) := hide2 (by rw [HFIN.out]; exact Go.Joins.ownsRow_le hown3 (by omega))
          have HBW3 : Hid (Below w.heap.size w w3) := hide2 (HB0.out.trans ((hB3 _ _ (Nat.le_refl _) hb2).mono (by omega)))
          have HRUN3 := hide2 hrun3
          clear hown HO hrun3 hown3 hB3 HFIN
          refine hide2 ?_
          refine Lib.wpList_append_run _ rfl _ _ _ _ rfl _ _ rfl rfl v3 w3 HRUN3.out ?_
          go_frame
          go_wp2
          go_ret
          exact ⟨_, rfl, HO3.out, HBW3.out⟩
        | false =>
          have HNEW : Hid (newR x t = [⟨x.key, x.val, t⟩]) := hide2 (by unfold newR; rw [hg2]; rfl)
          rw [hg2] at q2
          clear hg2
          obtain ⟨xv, hsl, hsv⟩ := HSV.out.from hcap (k) (by omega)
          have HSL := hide2 hsl
          have HSVX := hide2 hsv
          clear hsl hsv
          have HFIN : Hid (doneD l x t = (l.take k ++ newR x t) ++ l.drop (k)) := hide2 (by rw [HD.out, cutK_end (by omega), List.append_assoc])
          clear HD
          go_wp2_with fail
          go_quiet (fail)
          revert nq; intro n1
          go_wp2_with fail
          go_quiet (fail)
          go_wp2_with (at_builtin; refine Hid.out ?_)
          have hb2 : Below W0.heap.size W0 (wr.drewN (n1 + nq)) := below_drewN HB.out (n1 + nq)
          obtain ⟨v4, w2, hrun, hown0, hB2, hs2, _⟩ := rapp (w := (wr.drewN (n1 + nq)).alloc (.cells #[.string x.key, .string x.val, .int .i64 t] 33)) (World.ownsRow.alloc HO.out _) (by simp; omega) (sv_one (wr.drewN (n1 + nq)) ⟨x.key, x.val, t⟩) (by rw [htl]; simp; omega)
          have hown : Rr w2 W0.heap.size v4 (l.take k ++ newR x t) := by rw [HNEW.out]; exact hown0
          have HBW2 : Hid (Below W0.heap.size W0 w2) := hide2 (hB2 _ _ (Nat.le_refl _) (hb2.alloc hsz _))
          have hs3 := HBW2.out.size
          obtain ⟨v3, w3, hrun3, hown3, hB3, hs4, _⟩ := rapp hown hs3 (HSVX.out.keep HBW2.out) (by rw [List.length_append, htl, HNEW.out]; have := hdl (k); simp only [List.length_cons, List.length_nil]; omega)
          have HO3 : Hid (Rr w3 B v3 (doneD l x t)) := hide2 (by rw [HFIN.out]; exact Go.Joins.ownsRow_le hown3 (by omega))
          have HBW3 : Hid (Below w.heap.size w w3) := hide2 (HB0.out.trans ((hB3 _ _ (Nat.le_refl _) HBW2.out).mono (by omega)))
          have HRUN := hide2 hrun
          clear hrun hown0 hB2 HBW2
          have HRUN3 := hide2 hrun3
          have hsl : ∀ u : World, (Instr.slice 22 (.slice ao l.length cap) (some (.int .i64 ((k : Int)))) none none).run Tryz.prog u = .ok xv u := HSL.out
          clear hown HO hrun3 hown3 hB3 HFIN
          refine hide2 ?_
          refine Lib.wpList_append_run _ rfl _ _ _ _ rfl _ _ rfl rfl v4 w2 HRUN.out ?_
          go_frame
          go_wp2_with (at_builtin; refine Hid.out ?_)
          refine hide2 ?_
          refine Lib.wpList_append_run _ rfl _ _ _ _ rfl _ _ rfl rfl v3 w3 HRUN3.out ?_
          go_frame
          go_wp2
          go_ret
          exact ⟨_, rfl, HO3.out, HBW3.out⟩
end
end Go.Proofs.YthfcjfhaoabdeaaGreatDoor

/-
  Rm2: Slices of commits cut; the document's later. (Printed by gen_rm2.py.)
-/
set_option linter.unusedVariables false
set_option linter.unusedSimpArgs false
namespace Go.Proofs.YthfcjfhaoabdeaaGreatDoor
open Go.RowKit
open ML (addr_add2 below1 take_snoc while_at)
attribute [local go_sem] Oper.semAt_some
section
variable {w : World} {l : List Kc}
/-- The rest of such a slice. -/
theorem Svk.from {ao : Option Addr} {cap : Nat} (h : Svk w (.slice ao l.length cap) l) (hc : l.length ≤ cap) (k : Nat) (hk : k ≤ l.length) :
    ∃ x, (∀ u : World, (Instr.slice 23 (.slice ao l.length cap) (some (.int .i64 (k : Int))) none none).run Tryz.prog u = .ok x u) ∧ Svk w x (l.drop k) := by
  have ht : Tryz.prog.underlying 23 = some (.slice (Tryz.prog.elem 23)) := by kernel_rfl
  have he : Tryz.prog.elem 23 = 27 := by kernel_rfl
  have hs : ∀ u : World, (Go.sizeOf 27).run Tryz.prog u = .ok 2 u := fun u => by kernel_rfl
  refine ⟨sliced ao k l.length cap 2, fun u => ?_, ?_⟩
  · rw [run_slice_l u 23 ao l.length cap ht .i64 (k : Int) (by omega) (by omega), he, hs]
    rfl
  · simp only [sliced]
    rcases h with ⟨e, rfl⟩ | ⟨ad, c, e, hcell⟩
    · cases e
      refine .inl ⟨?_, by simp⟩
      simp
    · cases e
      by_cases q : cap = k
      · have : l.drop k = [] := List.drop_eq_nil_of_le (by omega)
        rw [if_pos q, this]
        refine .inr ⟨ad, cap - k, by simp; omega, fun j u hu => by cases hu⟩
      · rw [if_neg q]
        refine .inr ⟨ad.add (k * 2), cap - k, by simp, fun j u hu => ?_⟩
        have e2 : kc l = kc (l.take k) ++ kc (l.drop k) := by rw [← kc_append, List.take_append_drop]
        have e3 : (kc (l.take k)).length = k * 2 := by rw [kc_len, List.length_take, Nat.min_eq_left hk]
        have h1 := hcell (k * 2 + j) u (by rw [e2, List.getElem?_append_right (by omega), e3, Nat.add_sub_cancel_left]; exact hu)
        rw [addr_add2]
        exact h1
theorem Svk.upto {ao : Option Addr} {cap : Nat} (h : Svk w (.slice ao l.length cap) l) (hc : l.length ≤ cap) (k : Nat) (hk : k ≤ l.length) :
    ∃ x, (∀ u : World, (Instr.slice 23 (.slice ao l.length cap) none (some (.int .i64 (k : Int))) none).run Tryz.prog u = .ok x u) ∧ Svk w x (l.take k) := by
  have ht : Tryz.prog.underlying 23 = some (.slice (Tryz.prog.elem 23)) := by kernel_rfl
  have he : Tryz.prog.elem 23 = 27 := by kernel_rfl
  have hs : ∀ u : World, (Go.sizeOf 27).run Tryz.prog u = .ok 2 u := fun u => by kernel_rfl
  have htl : (l.take k).length = k := by rw [List.length_take, Nat.min_eq_left hk]
  rcases h with ⟨e, rfl⟩ | ⟨ad, c, e, hcell⟩
  · cases e
    have hk0 : k = 0 := by simpa using hk
    subst hk0
    refine ⟨.slice none 0 0, fun u => ?_, .inl ⟨rfl, rfl⟩⟩
    show (Instr.slice 23 (.slice none 0 0) none (some (.int .i64 ((0 : Nat) : Int))) none).run Tryz.prog u = _
    rw [run_slice_h u 23 none 0 0 ht .i64 (0 : Nat) (by omega) (by omega), he, hs]
    rfl
  · cases e
    refine ⟨.slice (some ad) k cap, fun u => ?_, .inr ⟨ad, cap, by rw [htl], fun j u hu => ?_⟩⟩
    · rw [run_slice_h u 23 (some ad) l.length cap ht .i64 (k : Int) (by omega) (by omega), he, hs]
      simp [Result.andThen, sliced, Addr.add]
    · refine hcell j u ?_
      have hj := (List.getElem?_eq_some_iff.1 hu).1
      have e2 : kc l = kc (l.take k) ++ kc (l.drop k) := by rw [← kc_append, List.take_append_drop]
      rw [e2, List.getElem?_append_left hj]
      exact hu
end
end Go.Proofs.YthfcjfhaoabdeaaGreatDoor

/-
  Rm3: The document's later: commits above a time, by their times.
-/
set_option linter.unusedVariables false
set_option linter.unusedSimpArgs false
namespace Go.Proofs.YthfcjfhaoabdeaaGreatDoor
open Go.RowKit
open ML (below1 take_snoc while_at)
attribute [local go_sem] Oper.semAt_some

theorem laterG_skip {frm : Int} {out l : List Kc} {k : Nat} {x : Kc} (h : l[k]? = some x) (ht : x.t ≤ frm) : laterG frm out (l.drop k) = laterG frm out (l.drop (k + 1)) := by
  rw [drop_at h]; show (if x.t ≤ frm then _ else _) = _; rw [if_pos ht]
theorem laterG_dup {frm : Int} {out l : List Kc} {k : Nat} {x : Kc} (h : l[k]? = some x) (ht : ¬ x.t ≤ frm) (hd : dupT out x = true) : laterG frm out (l.drop k) = none := by
  rw [drop_at h]; show (if x.t ≤ frm then _ else if dupT out x then _ else _) = _; rw [if_neg ht, if_pos hd]
theorem laterG_ins {frm : Int} {out l : List Kc} {k : Nat} {x : Kc} (h : l[k]? = some x) (ht : ¬ x.t ≤ frm) (hd : dupT out x = false) : laterG frm out (l.drop k) = laterG frm (insT out x) (l.drop (k + 1)) := by
  rw [drop_at h]; show (if x.t ≤ frm then _ else if dupT out x then _ else _) = _; rw [if_neg ht, if_neg (by rw [hd]; simp)]
/-- The place of a commit. -/
theorem ins_at {out : List Kc} {x : Kc} {n : Nat} (h1 : ∀ y ∈ out.take n, y.t < x.t) (h2 : ∀ y, out[n]? = some y → ¬ y.t < x.t) : insT out x = (out.take n ++ [x]) ++ out.drop n ∧ dupT out x = (match out[n]? with | none => false | some a => decide (a.t = x.t)) := by
  obtain ⟨e1, e2⟩ := while_at (fun y : Kc => decide (y.t < x.t)) out n (fun y hy => by simpa using h1 y hy) (fun y hy => by simpa using h2 y hy)
  refine ⟨by unfold insT; rw [e1, e2]; simp, ?_⟩
  unfold dupT
  rw [e2]
  cases hq : out[n]? with
  | none =>
    rw [List.drop_eq_nil_of_le (by
      rcases Nat.lt_or_ge n out.length with q | q
      · rw [List.getElem?_eq_getElem q] at hq; cases hq
      · exact q)]
  | some a => rw [drop_at hq]
theorem Kr.sv {w : World} {B : Nat} {v : Value} {l : List Kc} (h : Kr w B v l) : ∃ ao cap, v = .slice ao l.length cap ∧ l.length ≤ cap ∧ cap ≤ 9223372036854775807 ∧ KS w ao l.length cap l ∧ Svk w (.slice ao l.length cap) l := by
  obtain ⟨ao, cap, rfl, hs⟩ := h.seq
  have h1 := hs.2.1
  have h2 := hs.2.2.1
  unfold maxLen at h2
  exact ⟨ao, cap, rfl, h1, by omega, hs, KS.sv hs (fun e => by
    subst e
    rcases h.2 with ⟨q, _⟩ | ⟨g, c, cur, q, _⟩
    · injection q
    · injection q with q1; cases q1)⟩
/-- What later answers. -/
def LtO (w w' : World) (o : Option (List Kc)) (e : Ending) : Prop := match o with
  | none => e = .returned (.tuple #[.slice none 0 0, .bool false])
  | some S => ∃ v, e = .returned (.tuple #[v, .bool true]) ∧ Kr w' w.heap.size v S
section
set_option maxHeartbeats 16000000
set_option maxRecDepth 100000
variable {w : World} {ao : Option Addr} {len cap : Nat} {cs : List Kc}
theorem rlater_any (h : KS w ao len cap cs) (hl : len ≤ 1000000) (frm : Int) :
    Calls Tryz.prog 27 #[.int .i64 frm, .slice ao len cap] w fun e w' => LtO w w' (laterG frm [] cs) e ∧ Below w.heap.size w w' := by
  obtain rfl := h.1
  have HA := ehide3 h
  clear h
  go_enter Tryz.func27, Tryz.ntmps27
  go_wp2_with fail
  go_loopw [6, 7] (fun v i wr => ∃ (k : Nat) (out : List Kc), k ≤ cs.length ∧ i = .int .i64 (k : Nat) ∧ out.length ≤ k ∧ Hid (laterG frm [] cs = laterG frm out (cs.drop k)) ∧ Hid (Kr wr w.heap.size v out) ∧ Hid (Below w.heap.size w wr)) (fun _ i _ => cs.length - (intOf i).toNat)
  case atStart => exact ⟨0, [], by omega, rfl, by simp, ehide3 rfl, ehide3 (kr_nil _ _), ehide3 (Below.refl _ _)⟩
  case round =>
    obtain ⟨k, out, hk, rfl, hol, HE, HR, HB⟩ := hrel
    rename World => wo
    have hsz := HB.out.size
    by_cases hlt : k < cs.length
    · obtain ⟨x, hx⟩ := some_at rfl hlt
      obtain ⟨g, off, rfl, hgl, hc⟩ := KS.at HA.out (by omega)
      have HC0 : Hid (∀ u, Below w.heap.size w u → u.cell? ⟨g, off + k * 2, none⟩ = some (.int .i64 x.t) ∧ u.cell? ⟨g, off + k * 2 + 1, none⟩ = some (.slice x.ao x.len x.cap)) := ehide3 (fun u hu => ⟨(hu.cell (p := ⟨g, off + k * 2, none⟩) hgl).trans (hc k x hx).1, (hu.cell (p := ⟨g, off + k * 2 + 1, none⟩) hgl).trans (hc k x hx).2⟩)
      obtain ⟨c0, c1⟩ := HC0.out wo HB.out
      have d1 : (k : Int) < (cs.length : Int) := by omega
      clear hc
      by_cases ht : x.t ≤ frm
      · have HE2 := ehide3 (HE.out.trans (laterG_skip hx ht))
        clear HE HC0 hx
        go_wp2_with fail
        go_roundw
        case rel => exact ⟨k + 1, out, by omega, by go_num, by omega, HE2, HR, HB⟩
        case measure => simp [intOf]; omega
      · obtain ⟨oa, ocap, ev, hoc, hocm, hok, hov⟩ := HR.out.sv
        subst ev
        have HOK := ehide3 hok
        have HOV := ehide3 hov
        have HT := ehide3 ht
        have HX := ehide3 hx
        have d2 : ¬ x.t ≤ frm := ht
        clear hok hov ht hx
        go_wp2_with fail
        clear c0 c1
        go_loopw [8] (fun i wr => ∃ n : Nat, n ≤ out.length ∧ i = .int .i64 (n : Nat) ∧ Hid (∀ y ∈ out.take n, y.t < x.t) ∧ Hid (∃ m, wr = wo.drewN m)) (fun i _ => out.length - (intOf i).toNat)
        case atStart => exact ⟨0, by omega, rfl, ehide3 (fun y hy => by simp at hy), ehide3 ⟨0, rfl⟩⟩
        case round =>
          obtain ⟨n, hn, rfl, HALL, HM⟩ := hrel
          obtain ⟨m, rfl⟩ := HM.out
          clear HM
          obtain ⟨c0, c1⟩ := HC0.out wo HB.out
          have htl : (out.take n).length = n := by rw [List.length_take, Nat.min_eq_left hn]
          by_cases hgo : ∃ y, out[n]? = some y ∧ y.t < x.t
          · obtain ⟨y, hy, hyt⟩ := hgo
            have hnl := (List.getElem?_eq_some_iff.1 hy).1
            obtain ⟨og, ooff, rfl, hogl, hoc2⟩ := KS.at HOK.out (by omega)
            have y0 := (hoc2 n y hy).1
            have d3 : (n : Int) < (out.length : Int) := by omega
            have d4 : decide (y.t < x.t) = true := by simpa using hyt
            have HA2 : Hid (∀ z ∈ out.take (n + 1), z.t < x.t) := ehide3 (fun z hz => by
              rw [take_snoc hy] at hz
              rcases List.mem_append.1 hz with hz | hz
              · exact HALL.out z hz
              · simp at hz; subst hz; exact hyt)
            clear HALL hoc2 hy hyt
            go_wp2_with fail
            go_quiet (fail)
            go_wp2_with fail
            go_roundw
            case rel => exact ⟨n + 1, by omega, by go_num, HA2, ehide3 ⟨_, rfl⟩⟩
            case measure => simp [intOf]; omega
          · have hstop : ∀ y, out[n]? = some y → ¬ y.t < x.t := fun y hy q => hgo ⟨y, hy, q⟩
            obtain ⟨hi1, hi2⟩ := ins_at HALL.out hstop
            have HI1 := ehide3 hi1
            have HI2 := ehide3 hi2
            clear hi1 hi2 hgo HALL
            by_cases hnl : n < out.length
            · obtain ⟨y, hy⟩ := some_at (l := out) (i := n) (n := out.length) rfl hnl
              obtain ⟨og, ooff, rfl, hogl, hoc2⟩ := KS.at HOK.out (by omega)
              have y0 := (hoc2 n y hy).1
              have d3 : (n : Int) < (out.length : Int) := by omega
              have d4 : decide (y.t < x.t) = false := by have := hstop y hy; simpa using this
              rw [hy] at HI2
              clear hoc2 hstop
              by_cases hye : y.t = x.t
              · have HE2 := ehide3 (HE.out.trans (laterG_dup HX.out (by have := HT.out; omega) (by rw [HI2.out]; simpa using hye)))
                have d5 : (y.t == x.t) = true := by simpa using hye
                clear hye HI2 hy
                go_wp2_with fail
                go_quiet (fail)
                revert nq; intro n1
                go_wp2_with fail
                go_quiet (fail)
                go_wp2
                go_ret2
                refine ⟨?_, below_drewN (below_drewN (below_drewN HB.out _) _) _⟩
                rw [HE2.out]
                rfl
              · have HDU : Hid (dupT out x = false) := ehide3 (by rw [HI2.out]; simpa using hye)
                have d5 : (y.t == x.t) = false := by simpa using hye
                clear hye HI2 hy
                have HE2 := ehide3 (HE.out.trans (laterG_ins HX.out (by have := HT.out; omega) HDU.out))
                obtain ⟨xv, hsl1, hsv1⟩ := HOV.out.upto hoc n hn
                obtain ⟨yv, hsl2, hsv2⟩ := HOV.out.from hoc n hn
                have HSL2 := ehide3 hsl2
                have HSV1 := ehide3 hsv1
                have HSV2 := ehide3 hsv2
                have hdl : (out.drop n).length ≤ 1000000 := by rw [List.length_drop]; omega
                clear hsl2 hsv1 hsv2 HE HDU
                go_wp2_with fail
                go_quiet (fail)
                revert nq; intro n1
                go_wp2_with fail
                go_quiet (fail)
                go_wp2_with (at_builtin; refine Hid.out ?_)
                have hb0 : Below w.heap.size w (wo.drewN (m + n1 + nq)) := below_drewN HB.out (m + n1 + nq)
                obtain ⟨v1, w1, hrun1, hown1, hB1, hs1⟩ := kapp (w := wo.drewN (m + n1 + nq)) (B := wo.heap.size) (kr_nil _ _) (Nat.le_refl _) (show Svk (wo.drewN (m + n1 + nq)) xv (out.take n) from HSV1.out) (by rw [htl]; simp; omega)
                have hb1 : Below wo.heap.size wo w1 := hB1 _ _ (Nat.le_refl _) (below_drewN (Below.refl _ _) (m + n1 + nq))
                have hsb1 := hb1.size
                have HRUN1 := ehide3 hrun1
                have hbw1 := HB.out.trans (hb1.mono hsz)
                obtain ⟨e0, e1⟩ := HC0.out w1 hbw1
                rw [List.nil_append] at hown1
                obtain ⟨v2, w2, hrun2, hown2, hB2, hs2⟩ := kapp (w := w1.alloc (.cells #[.int .i64 x.t, .slice x.ao x.len x.cap] 27)) (World.ownsRow.alloc hown1 _) (by simp; omega) (svk_one w1 x) (by rw [htl]; simp; omega)
                have hb2 : Below wo.heap.size wo w2 := hB2 _ _ (Nat.le_refl _) (hb1.alloc hb1.size _)
                have hs2b := hb2.size
                have HRUN2 := ehide3 hrun2
                obtain ⟨v3, w3, hrun3, hown3, hB3, hs3⟩ := kapp hown2 hs2b (HSV2.out.keep hb2) (by rw [List.length_append, htl]; simp only [List.length_cons, List.length_nil]; omega)
                have HR3 : Hid (Kr w3 w.heap.size v3 (insT out x)) := ehide3 (by rw [HI1.out]; exact Go.Joins.ownsRow_le hown3 hsz)
                have HB3 : Hid (Below w.heap.size w w3) := ehide3 (HB.out.trans ((hB3 _ _ (Nat.le_refl _) hb2).mono hsz))
                have HRUN3 := ehide3 hrun3
                have hil : (insT out x).length ≤ k + 1 := by rw [HI1.out]; simp only [List.length_append, List.length_take, List.length_drop, List.length_cons, List.length_nil]; omega
                have hsl : ∀ u : World, (Instr.slice 23 (.slice (some ⟨og, ooff, none⟩) out.length ocap) (some (.int .i64 (n : Int))) none none).run Tryz.prog u = .ok yv u := HSL2.out
                obtain ⟨vq, vc, ev1, _⟩ := hown1.seq
                obtain ⟨vq2, vc2, ev2, _⟩ := hown2.seq
                have EV1 := ehide3 ev1
                have EV2 := ehide3 ev2
                clear hb0 hrun1 hrun2 hrun3 hown1 hown2 hown3 hB1 hB2 hB3 hb1 hb2 hbw1 c0 c1 HSL2 HI1 HSV1 HSV2 ev1 ev2
                refine ehide3 ?_
                refine Lib.wpList_append_run _ rfl _ _ _ _ rfl _ _ rfl rfl v1 w1 HRUN1.out ?_
                go_frame
                go_wp2_with (at_builtin; refine Hid.out ?_)
                refine ehide3 ?_
                refine Lib.wpList_append_run _ rfl _ _ _ _ rfl _ _ rfl rfl v2 w2 HRUN2.out ?_
                go_frame
                go_wp2_with (at_builtin; refine Hid.out ?_)
                refine ehide3 ?_
                refine Lib.wpList_append_run _ rfl _ _ _ _ rfl _ _ rfl rfl v3 w3 HRUN3.out ?_
                go_frame
                go_wp2_with fail
                go_roundw
                case rel => exact ⟨k + 1, insT out x, by omega, by go_num, by omega, HE2, HR3, HB3⟩
                case measure => simp [intOf]; omega
            · have hn2 : out[n]? = none := List.getElem?_eq_none (by omega)
              have HDU : Hid (dupT out x = false) := ehide3 (by rw [HI2.out, hn2])
              have d3 : ¬ (n : Int) < (out.length : Int) := by omega
              clear hstop HI2 hn2
              have HE2 := ehide3 (HE.out.trans (laterG_ins HX.out (by have := HT.out; omega) HDU.out))
              obtain ⟨xv, hsl1, hsv1⟩ := HOV.out.upto hoc n hn
              obtain ⟨yv, hsl2, hsv2⟩ := HOV.out.from hoc n hn
              have HSL2 := ehide3 hsl2
              have HSV1 := ehide3 hsv1
              have HSV2 := ehide3 hsv2
              have hdl : (out.drop n).length ≤ 1000000 := by rw [List.length_drop]; omega
              clear hsl2 hsv1 hsv2 HE HDU
              go_wp2_with fail
              go_quiet (fail)
              revert nq; intro n1
              go_wp2_with fail
              go_quiet (fail)
              go_wp2_with (at_builtin; refine Hid.out ?_)
              have hb0 : Below w.heap.size w (wo.drewN (m + n1 + nq)) := below_drewN HB.out (m + n1 + nq)
              obtain ⟨v1, w1, hrun1, hown1, hB1, hs1⟩ := kapp (w := wo.drewN (m + n1 + nq)) (B := wo.heap.size) (kr_nil _ _) (Nat.le_refl _) (show Svk (wo.drewN (m + n1 + nq)) xv (out.take n) from HSV1.out) (by rw [htl]; simp; omega)
              have hb1 : Below wo.heap.size wo w1 := hB1 _ _ (Nat.le_refl _) (below_drewN (Below.refl _ _) (m + n1 + nq))
              have hsb1 := hb1.size
              have HRUN1 := ehide3 hrun1
              have hbw1 := HB.out.trans (hb1.mono hsz)
              obtain ⟨e0, e1⟩ := HC0.out w1 hbw1
              rw [List.nil_append] at hown1
              obtain ⟨v2, w2, hrun2, hown2, hB2, hs2⟩ := kapp (w := w1.alloc (.cells #[.int .i64 x.t, .slice x.ao x.len x.cap] 27)) (World.ownsRow.alloc hown1 _) (by simp; omega) (svk_one w1 x) (by rw [htl]; simp; omega)
              have hb2 : Below wo.heap.size wo w2 := hB2 _ _ (Nat.le_refl _) (hb1.alloc hb1.size _)
              have hs2b := hb2.size
              have HRUN2 := ehide3 hrun2
              obtain ⟨v3, w3, hrun3, hown3, hB3, hs3⟩ := kapp hown2 hs2b (HSV2.out.keep hb2) (by rw [List.length_append, htl]; simp only [List.length_cons, List.length_nil]; omega)
              have HR3 : Hid (Kr w3 w.heap.size v3 (insT out x)) := ehide3 (by rw [HI1.out]; exact Go.Joins.ownsRow_le hown3 hsz)
              have HB3 : Hid (Below w.heap.size w w3) := ehide3 (HB.out.trans ((hB3 _ _ (Nat.le_refl _) hb2).mono hsz))
              have HRUN3 := ehide3 hrun3
              have hil : (insT out x).length ≤ k + 1 := by rw [HI1.out]; simp only [List.length_append, List.length_take, List.length_drop, List.length_cons, List.length_nil]; omega
              have hsl : ∀ u : World, (Instr.slice 23 (.slice oa out.length ocap) (some (.int .i64 (n : Int))) none none).run Tryz.prog u = .ok yv u := HSL2.out
              obtain ⟨vq, vc, ev1, _⟩ := hown1.seq
              obtain ⟨vq2, vc2, ev2, _⟩ := hown2.seq
              have EV1 := ehide3 ev1
              have EV2 := ehide3 ev2
              clear hb0 hrun1 hrun2 hrun3 hown1 hown2 hown3 hB1 hB2 hB3 hb1 hb2 hbw1 c0 c1 HSL2 HI1 HSV1 HSV2 ev1 ev2
              refine ehide3 ?_
              refine Lib.wpList_append_run _ rfl _ _ _ _ rfl _ _ rfl rfl v1 w1 HRUN1.out ?_
              go_frame
              go_wp2_with (at_builtin; refine Hid.out ?_)
              refine ehide3 ?_
              refine Lib.wpList_append_run _ rfl _ _ _ _ rfl _ _ rfl rfl v2 w2 HRUN2.out ?_
              go_frame
              go_wp2_with (at_builtin; refine Hid.out ?_)
              refine ehide3 ?_
              refine Lib.wpList_append_run _ rfl _ _ _ _ rfl _ _ rfl rfl v3 w3 HRUN3.out ?_
              go_frame
              go_wp2_with fail
              go_roundw
              case rel => exact ⟨k + 1, insT out x, by omega, by go_num, by omega, HE2, HR3, HB3⟩
              case measure => simp [intOf]; omega
    · have e1 : k = cs.length := by omega
      subst e1
      have d1 : ¬ (cs.length : Int) < (cs.length : Int) := by omega
      have HE2 : Hid (laterG frm [] cs = some out) := ehide3 (by rw [HE.out, List.drop_length]; rfl)
      obtain ⟨oa, ocap, ev, _⟩ := HR.out.sv
      subst ev
      clear HE
      go_wp2
      go_ret2
      refine ⟨?_, HB.out⟩
      rw [HE2.out]
      exact ⟨_, rfl, HR.out⟩
end
end Go.Proofs.YthfcjfhaoabdeaaGreatDoor

/-
  Rl6: do: a commit's writes on a map of rows.
-/
set_option linter.unusedVariables false
set_option linter.unusedSimpArgs false
namespace Go.Proofs.YthfcjfhaoabdeaaGreatDoor
open Go.RowKit Go.Shelf Go.Maps
open ML (Ro RS Srt Mg strLit setL delL setL_same setL_other delL_same delL_other strKeyed str_key turned_below)
attribute [local go_sem] Oper.semAt_some

/-- A write whose texts are no longer than a text may be. -/
def Wr.ok (x : Wr) : Prop := x.key.size ≤ 1048576 ∧ x.val.size ≤ 1048576
theorem Wr.ok.lit {x : Wr} (h : x.ok) : keyOf Tryz.prog 9 (.string x.key) = some (strLit x.key) := str_key (by have := h.1; unfold maxLen; omega)
theorem turned_block {w w' : World} {b : Nat} (h : w.mapTurned w' b) {k : Nat} (hk : k ≠ b) : w'.heap[k]? = w.heap[k]? := by
  obtain ⟨es, clock, es', clock', h1, rfl⟩ := h
  simp only [Go.ChangeMaps.setBlock]
  rw [Array.getElem?_setIfInBounds_ne (by omega)]
theorem WS.at {w : World} {ao : Option Addr} {len cap : Nat} {l : List Wr} (h : WS w ao len cap l) (hl : 0 < len) : ∃ g off, ao = some ⟨g, off, none⟩ ∧ g < w.heap.size ∧ ∀ i r, l[i]? = some r → w.cell? ⟨g, off + i * 3, none⟩ = some (.string r.key) ∧ w.cell? ⟨g, off + i * 3 + 1, none⟩ = some (.string r.val) ∧ w.cell? ⟨g, off + i * 3 + 2, none⟩ = some (.bool r.gone) := by
  obtain ⟨g, off, e, hg, hc⟩ := h.2.2.2 hl
  exact ⟨g, off, e, hg, fun i r hr => ⟨hc i r hr 0 _ rfl, hc i r hr 1 _ rfl, hc i r hr 2 _ rfl⟩⟩
/-- What holds when so many writes are done. -/
def Dw (B : Nat) (w wr : World) (mb q : Nat) (L : List Ro) : Prop := ∃ f, Mg 9 wr mb f q ∧ Fm L f ∧ Below B w wr ∧ ∀ j, j < w.heap.size → j ≠ mb → wr.heap[j]? = w.heap[j]?
section
set_option maxHeartbeats 8000000
set_option maxRecDepth 100000
variable {w : World} {ao : Option Addr} {len cap mb q B : Nat} {ws : List Wr} {f : Lit → Option Value} {L : List Ro}
theorem do_any (hM : Mg 9 w mb f q) (hF : Fm L f) (hS : Srt L) (t : Int) (hW : ∀ u, Below B w u → WS u ao len cap ws) (hok : ∀ x ∈ ws, x.ok) (hq : q + len ≤ 100000000) (hB : B ≤ mb) (hBw : B ≤ w.heap.size) :
    Calls Tryz.prog 20 #[.map (some mb), .agg #[.int .i64 t, .slice ao len cap]] w fun e w' => e = .returned (.tuple #[]) ∧ Dw B w w' mb (q + len) (doneW t L ws) := by
  have hxl := (hW w (Below.refl _ _)).1
  have hmx : (len : Int) ≤ 9223372036854775807 := by omega
  have HA := ehide3 hW
  have HOK := ehide3 hok
  have HS := ehide3 hS
  have hmb := hM.lt
  have HD1 : Hid (Dw B w (w.alloc (.cells #[.int .i64 t, .slice ao len cap] 27)) mb (q + 0) (doneW t L (ws.take 0))) := ehide3 ⟨f, hM.same (Below.heap_alloc _ _ _ hmb), hF, (Below.refl _ _).alloc hBw _, fun j hj _ => Below.heap_alloc _ _ _ hj⟩
  have HX1 := ehide3 (heap_alloc_new w (.cells #[.int .i64 t, .slice ao len cap] 27))
  clear hok hM hF hS hW
  go_enter Tryz.func20, Tryz.ntmps20
  go_wp2_with fail
  go_loopw [9] (fun i wr => ∃ k : Nat, k ≤ len ∧ i = .int .i64 (k : Nat) ∧ Hid (Dw B w wr mb (q + k) (doneW t L (ws.take k))) ∧ Hid (wr.heap[w.heap.size]? = some (.cells #[.int .i64 t, .slice ao len cap] 27 (0, 0)))) (fun i _ => len - (intOf i).toNat)
  case atStart => exact ⟨0, by omega, rfl, HD1, HX1⟩
  case round =>
    clear HD1 HX1
    obtain ⟨k, hk, rfl, HD, HX⟩ := hrel
    by_cases hlt : k < len
    · obtain ⟨x, hx⟩ := some_at hxl hlt
      have HXO := ehide3 (HOK.out x (List.mem_of_getElem? hx))
      obtain ⟨f1, hM1, hF1, hB1, hO1⟩ := HD.out
      obtain ⟨g, off, rfl, hgl, hc⟩ := WS.at (HA.out wr hB1) (by omega)
      have c0 := (hc k x hx).1
      have c1 := (hc k x hx).2.1
      have c2 := (hc k x hx).2.2
      have d1 : (k : Int) < (len : Int) := by omega
      have HTS := ehide3 (doneW_take (t := t) (L := L) hx)
      have hS1 := doneW_srt (t := t) (ws := ws.take k) HS.out
      have hwl := hB1.size
      have hxlt : w.heap.size < wr.heap.size := (Array.getElem?_eq_some_iff.1 HX.out).1
      have hne : w.heap.size ≠ mb := by omega
      have y0 : wr.cell? ⟨w.heap.size, 0, none⟩ = some (.int .i64 t) := by rw [Go.Joins.cell_of_block HX.out]; rfl
      clear hc
      obtain ⟨kk, vv, gg⟩ := x
      simp only [] at c0 c1 c2
      cases gg with
      | true =>
        obtain ⟨W1, hW1⟩ : ∃ W1, W1 = wr.alloc (.cells #[.string kk, .string vv, .bool true] 37) := ⟨_, rfl⟩
        have hb1 : Below wr.heap.size wr W1 := by rw [hW1]; exact ML.below1 _ _
        have hM2 := hM1.same (hb1.block _ hM1.lt)
        obtain ⟨w4, hrun, hM4, ht4⟩ := hM2.drop (f' := delL f1 (strLit kk)) strKeyed Tryz.underlying57 HXO.out.lit 0 delL_same (fun m hm => delL_other hm)
        have NX : Hid (Dw B w w4 mb (q + (k + 1)) (doneW t L (ws.take (k + 1)))) := ehide3 ⟨_, hM4.more (by omega), by rw [HTS.out]; exact Fm.del (w := ⟨kk, vv, true⟩) hS1 hF1 rfl, turned_below ht4 (hB1.trans (hb1.mono (by omega))) hB, fun j hj hn => (turned_block ht4 hn).trans ((hb1.block j (by omega)).trans (hO1 j hj hn))⟩
        have NB : Hid (w4.heap[w.heap.size]? = some (.cells #[.int .i64 t, .slice (some ⟨g, off, none⟩) len cap] 27 (0, 0))) := ehide3 (by rw [turned_block ht4 hne, hb1.block _ hxlt]; exact HX.out)
        rw [hW1] at hrun
        clear hM2 hM4 ht4 hW1 hb1 hM1 hF1 hB1 hO1 HD HX HTS hS1 hx HXO
        go_wp2
        go_roundw
        case rel => exact ⟨k + 1, by omega, by go_num, NX, NB⟩
        case measure => simp [intOf]; omega
      | false =>
        obtain ⟨W1, hW1⟩ : ∃ W1, W1 = wr.alloc (.cells #[.string kk, .string vv, .bool false] 37) := ⟨_, rfl⟩
        have hb1 : Below wr.heap.size wr W1 := by rw [hW1]; exact ML.below1 _ _
        have hM2 := hM1.same (hb1.block _ hM1.lt)
        have y1 := (hb1.cell (p := ⟨w.heap.size, 0, none⟩) hxlt).trans y0
        obtain ⟨w4, hrun, hM4, ht4⟩ := hM2.store (f' := setL f1 (strLit kk) (Ro.val ⟨kk, vv, t⟩)) strKeyed Tryz.underlying57 (by unfold maxLen; omega) HXO.out.lit (Ro.val ⟨kk, vv, t⟩) setL_same (fun m hm => setL_other hm)
        have NX : Hid (Dw B w w4 mb (q + (k + 1)) (doneW t L (ws.take (k + 1)))) := ehide3 ⟨_, hM4, by rw [HTS.out]; exact Fm.put (w := ⟨kk, vv, false⟩) hS1 hF1 rfl, turned_below ht4 (hB1.trans (hb1.mono (by omega))) hB, fun j hj hn => (turned_block ht4 hn).trans ((hb1.block j (by omega)).trans (hO1 j hj hn))⟩
        have NB : Hid (w4.heap[w.heap.size]? = some (.cells #[.int .i64 t, .slice (some ⟨g, off, none⟩) len cap] 27 (0, 0))) := ehide3 (by rw [turned_block ht4 hne, hb1.block _ hxlt]; exact HX.out)
        rw [hW1] at hrun y1
        clear hM2 hM4 ht4 hW1 hb1 hM1 hF1 hB1 hO1 HD HX HTS hS1 hx HXO
        go_wp2
        go_roundw
        case rel => exact ⟨k + 1, by omega, by go_num, NX, NB⟩
        case measure => simp [intOf]; omega
    · have e1 : k = len := by omega
      subst e1
      have d1 : ¬ (k : Int) < (k : Int) := by omega
      have HN : Hid (Dw B w wr mb (q + k) (doneW t L ws)) := ehide3 (by have := HD.out; rwa [← hxl, List.take_length, hxl] at this)
      clear HD
      go_wp2
      go_end0
      exact ⟨rfl, HN.out⟩
end
end Go.Proofs.YthfcjfhaoabdeaaGreatDoor
