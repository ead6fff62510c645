/-
  Lh3: Both graphs tell the same cycles; waits that come in, with their bounds; a copy of the others.
-/
import Derived.Test.YtafbchjmjfpilaaDoorLh2
import Derived.Test.YtafbchjmjfpilaaDoorSeqW
import Derived.Deep.AppendSrc
import Derived.Laws.MakeOwn
set_option linter.unusedVariables false
set_option linter.unusedSimpArgs false
namespace Go.Proofs.YtafbchjmjfpilaaDoor
open Go.RowKit Go.Shelf Go.ChangeShapes Go.WideShapes Go.ChangeAt
attribute [local go_sem] Oper.semAt_some

namespace Lk
section
variable {E E' : Nat → Nat → Bool} {t : Nat}
theorem rch_congr (h : ∀ i k, i < 16 → k < 16 → E i k = E' i k) (ht : t < 16) : ∀ n i, i < 16 → rch E t n i = rch E' t n i := by
  intro n
  induction n with
  | zero => intro i hi; exact h i t hi ht
  | succ n ih =>
    intro i hi
    rw [Bool.eq_iff_iff, rch_succ, rch_succ]
    constructor
    · rintro ⟨k, a, b, c, d⟩
      exact ⟨k, a, by rw [← h i k hi a]; exact b, c, by rw [← ih k a]; exact d⟩
    · rintro ⟨k, a, b, c, d⟩
      exact ⟨k, a, by rw [h i k hi a]; exact b, c, by rw [ih k a]; exact d⟩
theorem nxt_congr (h : ∀ i k, i < 16 → k < 16 → E i k = E' i k) (ht : t < 16) (n i : Nat) (hi : i < 16) : nxt E t n i = nxt E' t n i := by
  have e : ∀ k ∈ List.range 16, may E t n i k = may E' t n i k := fun k hk => by
    have hk' := List.mem_range.1 hk
    unfold may
    rw [h i k hi hk', rch_congr h ht n k hk']
  have f : ∀ l : List Nat, (∀ k ∈ l, may E t n i k = may E' t n i k) → l.find? (may E t n i) = l.find? (may E' t n i) := by
    intro l
    induction l with
    | nil => intro _; rfl
    | cons a l ih =>
      intro q
      rw [List.find?_cons, List.find?_cons, q a List.mem_cons_self, ih (fun k hk => q k (List.mem_cons_of_mem _ hk))]
  unfold nxt
  rw [f _ e]
theorem bst_congr (h : ∀ i k, i < 16 → k < 16 → E i k = E' i k) (ht : t < 16) : ∀ n i, i < 16 → bst E t n i = bst E' t n i := by
  intro n
  induction n with
  | zero => intro i hi; rfl
  | succ n ih =>
    intro i hi
    show nxt E t n i :: bst E t n (nxt E t n i) = nxt E' t n i :: bst E' t n (nxt E' t n i)
    rw [nxt_congr h ht n i hi]
    have hlt : nxt E' t n i < 16 := by
      unfold nxt
      cases q : (List.range 16).find? (may E' t n i) with
      | none => decide
      | some k => exact List.mem_range.1 (List.mem_of_find?_eq_some q)
    rw [ih _ hlt]
theorem cyc_congr (h : ∀ i k, i < 16 → k < 16 → E i k = E' i k) (ht : t < 16) : cyc E t = cyc E' t := by
  unfold cyc
  have e : (fun n => rch E t n t) = fun n => rch E' t n t := funext fun n => rch_congr h ht n t ht
  rw [e]
  congr 1
  funext n
  rw [bst_congr h ht n t ht]
end
end Lk

/-- The cycle that is told, and whether there is one. -/
def cl (E : Nat → Nat → Bool) (me : Int) : List Nat := if isW me then (Lk.cyc E me.toNat).getD [] else []
def cb (E : Nat → Nat → Bool) (me : Int) : Bool := isW me && (Lk.cyc E me.toNat).isSome

section
set_option maxHeartbeats 8000000
set_option maxRecDepth 100000
variable {w wr : World} {d b : Nat} {Wt : List Nat} {F : Nat → Bool}
theorem cl_eq (h : Jg Wt F) (me : Int) : cl (dE F) me = cl (gE Wt) me ∧ cb (dE F) me = cb (gE Wt) me := by
  unfold cl cb
  cases hme : isW me with
  | false => exact ⟨rfl, rfl⟩
  | true =>
    obtain ⟨_, h2⟩ := isW_toNat hme
    rw [Lk.cyc_congr (E := dE F) (E' := gE Wt) (fun i k hi hk => h.jn i k hi hk) h2]
    exact ⟨rfl, rfl⟩

theorem gb_cycle (h : Gb w wr d b Wt F) (hT : Tab w) (me : Int) :
    Calls Tryd.prog 9 #[.pointer (some ⟨d, 0, none⟩), .int .i64 me] wr fun e w' => ∃ v, e = .returned (.tuple #[v, .bool (cb (gE Wt) me)]) ∧ Hr w' wr.heap.size v (cl (gE Wt) me) ∧ Below wr.heap.size wr w' := by
  unfold cl cb
  cases hme : isW me with
  | false =>
    refine (cycle_out hme _ _).mono ?_
    rintro e w' ⟨rfl, hb⟩
    exact ⟨_, rfl, Hr.nil _ _, hb⟩
  | true =>
    obtain ⟨t, rfl⟩ : ∃ n : Nat, me = (n : Int) := ⟨me.toNat, (isW_toNat hme).1.symm⟩
    have ht : t < 16 := by have := isW_iff.1 hme; omega
    refine (cycle_ok h.gm (hT.below h.bl hT.1) ht).mono ?_
    rintro e w' ⟨⟨hc, rfl⟩ | ⟨p, v, hc, rfl, hr⟩, hb⟩
    · refine ⟨.slice none 0 0, ?_, ?_, hb⟩
      · rw [Int.toNat_natCast, hc]; rfl
      · rw [Int.toNat_natCast, hc]; exact Hr.nil _ _
    · refine ⟨v, ?_, ?_, hb⟩
      · rw [Int.toNat_natCast, hc]; rfl
      · rw [Int.toNat_natCast, hc]; exact hr
theorem gb_rcycle (h : Gb w wr d b Wt F) (me : Int) :
    Calls Tryd.prog 10 #[.pointer (some ⟨b, 0, none⟩), .int .i64 me] wr fun e w' => ∃ v, e = .returned (.tuple #[v, .bool (cb (dE F) me)]) ∧ Hr w' wr.heap.size v (cl (dE F) me) ∧ Below wr.heap.size wr w' := by
  unfold cl cb
  cases hme : isW me with
  | false =>
    refine (rcycle_out hme _ _).mono ?_
    rintro e w' ⟨rfl, rfl⟩
    exact ⟨_, rfl, Hr.nil _ _, Below.refl _ _⟩
  | true =>
    obtain ⟨t, rfl⟩ : ∃ n : Nat, me = (n : Int) := ⟨me.toNat, (isW_toNat hme).1.symm⟩
    have ht : t < 16 := by have := isW_iff.1 hme; omega
    refine (rcycle_ok h.gr ht).mono ?_
    rintro e w' ⟨⟨hc, rfl⟩ | ⟨p, v, hc, rfl, hr⟩, hb⟩
    · refine ⟨.slice none 0 0, ?_, ?_, hb⟩
      · rw [Int.toNat_natCast, hc]; rfl
      · rw [Int.toNat_natCast, hc]; exact Hr.nil _ _
    · refine ⟨v, ?_, ?_, hb⟩
      · rw [Int.toNat_natCast, hc]; rfl
      · rw [Int.toNat_natCast, hc]; exact hr

/-! Waits, with the bounds of their lists. -/
theorem bytesI : Tryd.prog.bytesOf 3 = 8 := by kernel_rfl
section
variable {H : Type} {enc : TypeId × Value → H} {W : World} {a : Option Addr} {len cap : Nat} {dd : DataW H} {p : List MemPlace}
theorem wi_wide {n : Nat} {o : Wi} {y : DataW H × List MemPlace} (ht : DataW.trod enc Tryd.prog W 0 (fun _ => true) true n 35 o.cells = some y) (hw : ∀ n ∈ y.1.weights Tryd.prog 35, n ≤ reachBytes) : o.len ≤ 17592186043904 := by
  obtain ⟨xs, m, _, hdd, hl, hxl, hfs⟩ := DataW.trod_struct Tryd.underlying35 ht
  have hx2 : xs.length = 2 := hxl
  obtain ⟨y1, e1⟩ := some_at hx2 (i := 1) (by omega)
  have h1 := (field_at hfs 1 33 1 _ cellsIs rfl).trans e1
  dsimp only [Wi.cells, List.drop, List.take] at h1
  rcases DataW.trod_slice Tryd.underlying33 h1 with ⟨e, _⟩ | ⟨a, l, c, elems, rest, _, _, e, hd3, _, _, _, hlen, _⟩
  · simp at e
    omega
  · simp at e
    have hm := hw ((elems.length + rest.length) * Tryd.prog.bytesOf 3) (by
      rw [hdd]
      simp only [DataW.weights, Tryd.underlying35]
      refine DataW.weights_mem_each (j := 1) (t := 33) (d := y1.1) rfl (by simp [e1]) _ ?_
      rw [hd3]
      simp [DataW.weights, Tryd.underlying33])
    rw [bytesI] at hm
    unfold reachBytes at hm
    omega
theorem open_waitsW (h : DataW.Trod enc Tryd.prog W 0 (fun _ => true) true 22 (.slice a len cap) dd p) (hw : ∀ n ∈ dd.weights Tryd.prog 22, n ≤ reachBytes) : ∃ xs : List Wi, (∀ x ∈ xs, x.len ≤ 17592186043904) ∧ Waits W a len cap xs ∧ Long dd len := by
  obtain ⟨xs, h1, h2, h3⟩ := open_seqW Wi.cells (fun x => x.ok W ∧ x.len ≤ 17592186043904) Tryd.underlying22 cellsWi (by decide) (fun _ _ => rfl) (fun m cs y hl hy hq => by
    obtain ⟨o, ho, rfl⟩ := wi_of hl hy
    exact ⟨o, ⟨ho, wi_wide hy hq⟩, rfl⟩) h hw
  exact ⟨xs, fun x hx => (h1 x hx).2, ⟨h2, fun x hx => (h1 x hx).1⟩, h3⟩
end

/-! A copy of the others. -/
structure Oc (w wr : World) (d b o : Nat) (Wt : List Nat) (F : Nat → Bool) (n : Nat) (f : Nat → Value) : Prop where
  gb : Gb w wr d b Wt F
  row : wr.rowIs o 3 (n + 1) f
  ho : w.heap.size ≤ o
  od : o ≠ d
  ob : o ≠ b
theorem Oc.drewN {o n : Nat} {f : Nat → Value} (h : Oc w wr d b o Wt F n f) (q : Nat) : Oc w (wr.drewN q) d b o Wt F n f := ⟨h.gb.drewN q, h.row, h.ho, h.od, h.ob⟩
theorem Oc.ints {o n : Nat} {os : List Int} (h : Oc w wr d b o Wt F n (fun j => .int .i64 (os.getD j 0))) (hn : os.length = n) (hm : n ≤ 17592186043904) : Ints .i64 wr (some ⟨o, 0, none⟩) n (n + 1) os := by
  refine ⟨hn, by omega, by unfold maxLen; omega, fun _ => ⟨o, 0, rfl, World.rowIs.lt h.row, fun i x hx j u hu => ?_⟩⟩
  have hi : i < n := by have := (List.getElem?_eq_some_iff.1 hx).1; omega
  have hj : j = 0 := by
    have := (List.getElem?_eq_some_iff.1 hu).1
    simp at this
    omega
  subst hj
  have := World.rowIs.cell h.row (i := i) (by omega)
  have e : os.getD i 0 = x := by simp [List.getD, hx]
  rw [e] at this
  simp at hu
  subst hu
  simpa using this
/-- One of the others is written over. -/
theorem Oc.set {o n i : Nat} {f : Nat → Value} (h : Oc w wr d b o Wt F n f) (v : Value) : Oc w (wr.setCell ⟨o, i, none⟩ v) d b o Wt F n (fun j => if j = i then v else f j) :=
  ⟨⟨h.gb.gm.keep (Below.heap_setCell _ _ _ _ (fun q => h.od q.symm)), h.gb.gr.setOther (fun q => h.ob q.symm) _, h.gb.hd, h.gb.hb, h.gb.ne, h.gb.bl.setCell h.ho _⟩, World.rowIs.set h.row i v, h.ho, h.od, h.ob⟩
theorem Gb.size (h : Gb w wr d b Wt F) : d < wr.heap.size ∧ b < wr.heap.size := ⟨h.gm.lt, World.rowIs.lt h.gr⟩
theorem oc_made (h : Gb w wr d b Wt F) (n : Nat) : Oc w (wr.alloc (.cells (madeCells #[.int .i64 0] (n + 1)) 3)) d b wr.heap.size Wt F n (fun _ => .int .i64 0) := by
  obtain ⟨h1, h2⟩ := h.size
  exact ⟨h.below (below1 _ _), World.rowIs_made _ _ _ _, h.bl.size, by omega, by omega⟩
theorem Oc.fill {o n : Nat} {os : List Int} (h : Oc w wr d b o Wt F n (fun _ => .int .i64 0)) (hn : os.length = n) : Oc w (wr.setCells o 0 (os.map (Value.int .i64))) d b o Wt F n (fun j => .int .i64 (os.getD j 0)) := by
  refine ⟨⟨h.gb.gm.keep (Oth.sets o _ _ _ |>.other _ (fun q => h.od q.symm)), rowIs_setCells_other (fun q => h.ob q.symm) _ _ _ h.gb.gr, h.gb.hd, h.gb.hb, h.gb.ne, below_setCells h.ho _ _ _ h.gb.bl⟩, ?_, h.ho, h.od, h.ob⟩
  refine (rowIs_setCells _ 0 _ _ h.row).congr (fun j hj => ?_)
  rw [List.length_map, hn]
  by_cases q : j < n
  · rw [if_pos (by omega)]
    have : j < os.length := by omega
    simp [List.getD, this]
  · rw [if_neg (by omega)]
    have : os[j]? = none := List.getElem?_eq_none (by omega)
    simp [List.getD, this]
theorem oc_append {o n : Nat} {x : Wi} (h : Oc w wr d b o Wt F n (fun _ => .int .i64 0)) (hx : x.ok w) (hn : x.len = n) (ty : TypeId) :
    (Builtin.append_ #[33, 33] ty #[.slice (some ⟨o, 0, none⟩) 0 (n + 1), .slice x.ao x.len x.cap]).run Tryd.prog wr = .ok (.slice (some ⟨o, 0, none⟩) n (n + 1)) (wr.setCells o 0 (x.os.map (Value.int .i64))) := by
  obtain ⟨i0, hi0, z0, z1, z2⟩ := info_parts info3
  have hlen : x.os.length = n := by rw [← hn]; exact hx.1
  have hs : Src Tryd.prog i0.size 33 (.slice x.ao x.len x.cap) n (x.os.map (Value.int .i64)) wr := by
    rw [z1]
    rcases Nat.eq_zero_or_pos x.len with e | e
    · cases ha : x.ao with
      | none =>
        have e0 : x.os = [] := List.eq_nil_of_length_eq_zero (by omega)
        have en : n = 0 := by omega
        rw [e, e0, en]
        exact Src.ofNil wr Tryd.underlying33 x.cap
      | some a =>
        have e0 : x.os = [] := List.eq_nil_of_length_eq_zero (by omega)
        rw [hn]
        exact Src.ofSlice wr Tryd.underlying33 a n x.cap _ (by rw [e0]; simp; omega) (fun j u hu => by rw [e0] at hu; cases hu) (fun u hu => by rw [e0] at hu; cases hu)
    · obtain ⟨g, off, ea, hg, hc⟩ := Seq.num hx e
      rw [ea, hn]
      refine Src.ofSlice wr Tryd.underlying33 ⟨g, off, none⟩ n x.cap _ (by rw [List.length_map]; omega) (fun j u hu => ?_) (fun u hu => ?_)
      · rw [addr_plus]
        rw [List.getElem?_map] at hu
        cases hq : x.os[j]? with
        | none => rw [hq] at hu; cases hu
        | some y =>
          rw [hq] at hu
          have hj : j < x.len := by have := (List.getElem?_eq_some_iff.1 hq).1; omega
          have h1 := hc j hj
          have h2 : x.os.getD j 0 = y := by simp [List.getD, hq]
          rw [h2] at h1
          rw [h.gb.bl.cell (p := ⟨g, off + j, none⟩) hg, h1]
          exact hu
      · obtain ⟨y, _, rfl⟩ := List.mem_map.1 hu
        rfl
  have := run_append_room_src (P := Tryd.prog) wr 33 33 ty 3 i0 Tryd.underlying33 hi0 o 0 0 (n + 1) _ n _ hs (by omega)
    (fun j hj => by
      rw [List.length_map] at hj
      have e : (0 + 0 * i0.size + j) = j := by omega
      rw [e, World.rowIs.cell h.row (i := j) (by omega)]
      rfl)
    (fun j hj => World.rowIs.frozen h.row _)
  rw [this]
  simp

theorem oc_wait {o n : Nat} {x : Wi} (h : Oc w wr d b o Wt F n (fun j => .int .i64 (x.os.getD j 0))) (hT : Tab w) (hn : x.os.length = n) (hm : n ≤ 17592186043904) :
    Calls Tryd.prog 7 #[.pointer (some ⟨d, 0, none⟩), .int .i64 x.w, .slice (some ⟨o, 0, none⟩) n (n + 1)] wr fun e w' => e = .returned (.int .i64 (wtE x)) ∧ Oc w w' d b o (wtN Wt x) F n (fun j => .int .i64 (x.os.getD j 0)) := by
  have g := h.gb
  refine (wait_any g.gm (hT.below g.bl hT.1) (h.ints hn hm) x.w).mono ?_
  rintro e w' (⟨h1, h2, rfl, q, rfl⟩ | ⟨h1, rfl, rfl⟩)
  · have hok : okw x = true := by unfold okw; rw [h1, h2]; rfl
    unfold wtE wtN
    rw [hok, if_pos rfl, if_pos rfl]
    refine ⟨rfl, Oc.drewN ⟨⟨g.gm.set (wo_lt (cm_lt _)), g.gr.setOther (fun q => g.ne q.symm) _, g.hd, g.hb, g.ne, g.bl.setCell g.hd _⟩, h.row.setOther h.od _, h.ho, h.od, h.ob⟩ q⟩
  · have hok : okw x = false := h1
    unfold wtE wtN
    rw [hok]
    exact ⟨rfl, h⟩
theorem oc_rwait {o n : Nat} {f : Nat → Value} {x : Wi} (h : Oc w wr d b o Wt F n f) (hx : x.ok w) :
    Calls Tryd.prog 8 #[.pointer (some ⟨b, 0, none⟩), .int .i64 x.w, .slice x.ao x.len x.cap] wr fun e w' => e = .returned (.int .i64 (wtE x)) ∧ Oc w w' d b o Wt (wtF F x) n f := by
  have g := h.gb
  refine (rwait_any g.gr (fun hl a ha => ?_) (Seq.keep hx g.bl) x.w).mono ?_
  · obtain ⟨g', off, e, hg, _⟩ := Seq.num hx hl
    rw [ha] at e
    have e2 := Option.some.inj e
    subst e2
    have := g.hb
    show g' ≠ b
    omega
  · rintro e w' (⟨h1, h2, rfl, q, r⟩ | ⟨h1, rfl, rfl⟩)
    · have hok : okw x = true := by unfold okw; rw [h1, h2]; rfl
      unfold wtE wtF
      rw [hok, if_pos rfl, if_pos rfl]
      exact ⟨rfl, ⟨g.gm.keep (q.other _ g.ne), r, g.hd, g.hb, g.ne, q.below g.bl g.hb⟩, h.row.of_block (q.other _ h.ob), h.ho, h.od, h.ob⟩
    · have hok : okw x = false := h1
      unfold wtE wtF
      rw [hok]
      exact ⟨rfl, h⟩
end
end Go.Proofs.YtafbchjmjfpilaaDoor
