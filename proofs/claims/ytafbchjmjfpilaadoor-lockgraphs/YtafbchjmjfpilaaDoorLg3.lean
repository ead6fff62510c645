/-
  Lg3: What a cycle that is told is; waits that come in; both graphs beside one another.
-/
import Derived.Test.YtafbchjmjfpilaaDoorLg2
import Derived.Test.YtafbchjmjfpilaaDoorLkL
set_option linter.unusedVariables false
set_option linter.unusedSimpArgs false
namespace Go.Proofs.YtafbchjmjfpilaaDoor
open Go.RowKit Go.Shelf Go.ChangeShapes Go.WideShapes Go.ChangeAt
attribute [local go_sem] Oper.semAt_some

namespace Lk
section
variable {E E' : Nat → Nat → Bool} {t : Nat} {p p' : List Nat}
/-- What is asked of a cycle. -/
structure Cyf (E : Nat → Nat → Bool) (t : Nat) (p : List Nat) : Prop where
  two : 2 ≤ p.length
  le : p.length ≤ 16
  hd : p.getD 0 0 = t
  lt : ∀ i, i < p.length → p.getD i 0 < 16
  nx : ∀ i, i < p.length → E (p.getD i 0) (p.getD ((i + 1) % p.length) 0) = true
  nd : ∀ i k, k < i → i < p.length → p.getD k 0 ≠ p.getD i 0

theorem getD_eq {l : List Nat} {i : Nat} (h : i < l.length) : l.getD i 0 = l[i] := by simp [List.getD, h]

theorem cyf_of (h : cyc E t = some p) (ht : t < 16) (self : E t t = false) : Cyf E t p := by
  rcases cyc_cases E ht with ⟨n, hn, hl, he⟩ | ⟨_, he⟩
  · rw [h] at he
    have hp := Option.some.inj he
    have W := hl.way
    have hn0 : n ≠ 0 := fun e => by
      subst e
      have := hl.is
      rw [rch_zero, self] at this
      cases this
    have hlen : p.length = n + 1 := by rw [hp]; simp [bst_len]
    have hlt : ∀ i, i < p.length → p.getD i 0 < 16 := fun i hi => by
      rw [getD_eq hi]
      have hm := List.getElem_mem hi
      generalize p[i] = x at hm
      rw [hp] at hm
      rcases List.mem_cons.1 hm with y | y
      · rw [y]; exact ht
      · exact W.lt x y
    refine ⟨by omega, by omega, by rw [hp]; rfl, hlt, fun i hi => ?_, fun i k hk hi => ?_⟩
    · have q := pth_next (bst_pth hl.is) i (by rw [bst_len]; omega)
      rw [← hp] at q
      have e : (bst E t n t ++ [t]).getD i 0 = p.getD ((i + 1) % p.length) 0 := by
        by_cases r : i < n
        · rw [Nat.mod_eq_of_lt (by omega), hp]
          simp [List.getD, List.getElem?_append_left, bst_len, r]
        · have ei : i = n := by omega
          subst ei
          rw [hlen, Nat.mod_self, hp]
          simp [List.getD, List.getElem?_append_right, bst_len]
      rw [← e]
      exact q
    · rw [getD_eq (by omega : k < p.length), getD_eq hi]
      intro q
      have nd : p.Nodup := by rw [hp]; exact W.nd
      have := (List.getElem_inj nd).1 q
      omega
  · rw [h] at he; cases he

theorem cyf_gone {v : Nat} (h : cyc E t = some p) (h' : cyc E' t = some p') (hs : ∀ i k, E' i k = true → E i k = true) (hv : ∀ k, E' v k = false) (ht : t < 16) : p.length ≤ p'.length ∧ ∀ i, i < p'.length → p'.getD i 0 ≠ v := by
  rcases cyc_cases E ht with ⟨n, hn, hl, he⟩ | ⟨_, he⟩
  · rcases cyc_cases E' ht with ⟨m, hm, hl', he'⟩ | ⟨_, he'⟩
    · rw [h] at he
      rw [h'] at he'
      have hp := Option.some.inj he
      have hp' := Option.some.inj he'
      obtain ⟨a, b⟩ := cyc_gone hs hv hl hl' ht
      refine ⟨by rw [hp, hp']; simp [bst_len]; exact a, fun i hi q => ?_⟩
      rw [getD_eq hi] at q
      have hm := List.getElem_mem hi
      rw [q, hp'] at hm
      exact b hm
    · rw [h'] at he'; cases he'
  · rw [h] at he; cases he
end
end Lk

/-- A wait that came in. -/
structure Wi where
  w : Int
  ao : Option Addr
  len : Nat
  cap : Nat
  os : List Int
abbrev Wi.cells (x : Wi) : List Value := [.int .i64 x.w, .slice x.ao x.len x.cap]
def Wi.ok (W : World) (x : Wi) : Prop := Ints .i64 W x.ao x.len x.cap x.os
def Waits (W : World) (ao : Option Addr) (len cap : Nat) (xs : List Wi) : Prop := Seq 2 Wi.cells W ao len cap xs ∧ ∀ x ∈ xs, x.ok W
theorem Waits.keep {W W' : World} {ao : Option Addr} {len cap : Nat} {xs : List Wi} (h : Waits W ao len cap xs) (hb : Below W.heap.size W W') : Waits W' ao len cap xs :=
  ⟨h.1.keep hb, fun x hx => Seq.keep (h.2 x hx) hb⟩
theorem cellsI3 : Tryd.prog.cellsOf 3 = 1 := by kernel_rfl
theorem cellsIs : Tryd.prog.cellsOf 33 = 1 := by kernel_rfl
theorem cellsWi : Tryd.prog.cellsOf 35 = 2 := by kernel_rfl
section
variable {H : Type} {enc : TypeId × Value → H} {W : World} {a : Option Addr} {len cap : Nat} {d : DataW H} {p : List MemPlace}
set_option maxRecDepth 100000 in
theorem wi_of {n : Nat} {cs : List Value} {y : DataW H × List MemPlace} (hl : cs.length = 2) (ht : DataW.trod enc Tryd.prog W 0 (fun _ => true) true n 35 cs = some y) : ∃ o : Wi, o.ok W ∧ cs = o.cells := by
  obtain ⟨xs, m, _, _, _, hxl, hfs⟩ := DataW.trod_struct Tryd.underlying35 ht
  have hx2 : xs.length = 2 := hxl
  match cs, hl with
  | [c0, c1], _ =>
    obtain ⟨y0, e0⟩ := some_at hx2 (i := 0) (by omega)
    obtain ⟨y1, e1⟩ := some_at hx2 (i := 1) (by omega)
    have h0 := (field_at hfs 0 3 0 _ cellsI3 rfl).trans e0
    have h1 := (field_at hfs 1 33 1 _ cellsIs rfl).trans e1
    dsimp only [List.drop, List.take] at h0 h1
    obtain ⟨k0, q0, _, w0⟩ := DataW.trod_int Tryd.underlying3 h0
    simp only [List.cons.injEq, and_true] at q0
    subst q0
    rcases DataW.trod_slice Tryd.underlying33 h1 with ⟨hcs, hdn⟩ | ⟨x, l, c, elems, rest, n, _, hcs, _⟩
    · simp only [List.cons.injEq, and_true] at hcs
      subst hcs
      obtain ⟨xs, q1, q2, -⟩ := open_i64s (a := none) (len := 0) (cap := 0) (d := y1.1) (p := y1.2) ⟨m, h1⟩
      exact ⟨⟨k0, none, 0, 0, xs⟩, q2, rfl⟩
    · simp only [List.cons.injEq, and_true] at hcs
      subst hcs
      obtain ⟨xs, q1, q2, -⟩ := open_i64s (a := some x) (len := l) (cap := c) (d := y1.1) (p := y1.2) ⟨m, h1⟩
      exact ⟨⟨k0, some x, l, c, xs⟩, q2, rfl⟩
theorem open_waits (h : DataW.Trod enc Tryd.prog W 0 (fun _ => true) true 22 (.slice a len cap) d p) : ∃ xs : List Wi, True ∧ Waits W a len cap xs ∧ Long d len := by
  obtain ⟨xs, h1, h2, h3⟩ := open_seq Wi.cells (Wi.ok W) Tryd.underlying22 cellsWi (by decide) (fun _ _ => rfl) (fun m cs y hl hy => wi_of hl hy) h
  exact ⟨xs, trivial, ⟨h2, h1⟩, h3⟩
end

section
set_option maxHeartbeats 4000000
set_option maxRecDepth 100000
/-- Both graphs, made since w. -/
structure Gb (w wr : World) (d b : Nat) (Wt : List Nat) (F : Nat → Bool) : Prop where
  gm : Gm wr d Wt
  gr : Gr wr b F
  hd : w.heap.size ≤ d
  hb : w.heap.size ≤ b
  ne : d ≠ b
  bl : Below w.heap.size w wr
/-- They say the same; nobody waits for themselves. -/
structure Jg (Wt : List Nat) (F : Nat → Bool) : Prop where
  jn : ∀ i k, i < 16 → k < 16 → F (i * 16 + k) = gE Wt i k
  self : ∀ i, i < 16 → gE Wt i i = false

variable {w wr : World} {d b : Nat} {Wt : List Nat} {F : Nat → Bool}
theorem Gb.drewN (h : Gb w wr d b Wt F) (q : Nat) : Gb w (wr.drewN q) d b Wt F := ⟨⟨h.gm.len, h.gm.sm, h.gm.blk⟩, h.gr, h.hd, h.hb, h.ne, ⟨h.bl.os, h.bl.tape, h.bl.output, h.bl.size, h.bl.block⟩⟩
theorem Gb.below (h : Gb w wr d b Wt F) {w' : World} (k : Below wr.heap.size wr w') : Gb w w' d b Wt F :=
  ⟨h.gm.keep (k.block _ h.gm.lt), h.gr.of_block (k.block _ (World.rowIs.lt h.gr)), h.hd, h.hb, h.ne, h.bl.trans (k.mono h.bl.size)⟩

def okw (x : Wi) : Bool := isW x.w && x.os.all isW
def wtE (x : Wi) : Int := if okw x then 0 else 2
def wtN (Wt : List Nat) (x : Wi) : List Nat := if okw x then Wt.set x.w.toNat (wo (cm x.os) (2 ^ x.w.toNat)) else Wt
def wtF (F : Nat → Bool) (x : Wi) : Nat → Bool := if okw x then gset F x.w.toNat x.os else F

theorem cm_bit {l : List Int} {k : Nat} : (cm l).testBit k = l.any (fun c => isW c && decide (c = (k : Int))) := by
  unfold cm
  rw [Lk.cme_bit, Nat.zero_testBit, Bool.false_or]
  rw [Bool.eq_iff_iff, decide_eq_true_iff, List.any_eq_true]
  unfold wk
  rw [List.mem_map]
  constructor
  · rintro ⟨x, hx, e⟩
    obtain ⟨h1, h2⟩ := List.mem_filter.1 hx
    exact ⟨x, h1, by rw [h2]; have := (isW_toNat h2).1; simp; omega⟩
  · rintro ⟨x, hx, e⟩
    obtain ⟨h1, h2⟩ := Bool.and_eq_true_iff.1 e
    have h3 : x = (k : Int) := by simpa using h2
    exact ⟨x, List.mem_filter.2 ⟨hx, h1⟩, by omega⟩

theorem Jg.wait (h : Jg Wt F) (hl : Wt.length = 16) (x : Wi) : Jg (wtN Wt x) (wtF F x) := by
  unfold wtN wtF
  cases hok : okw x with
  | false => exact h
  | true =>
    obtain ⟨h1, h2⟩ := Bool.and_eq_true_iff.1 hok
    obtain ⟨e1, e2⟩ := isW_toNat h1
    generalize x.w.toNat = n at *
    rw [if_pos rfl, if_pos rfl]
    have hbit : ∀ k, k < 16 → gE (Wt.set n (wo (cm x.os) (2 ^ n))) n k = x.os.any (fun c => decide (c = (k : Int)) && !decide (c = (n : Int))) := fun k hk => by
      unfold gE
      have : (Wt.set n (wo (cm x.os) (2 ^ n))).getD n 0 = wo (cm x.os) (2 ^ n) := by simp [List.getD, List.getElem?_set, hl, e2]
      rw [this, wo_bit (cm_lt _) (pow16_lt e2), cm_bit, Nat.testBit_two_pow]
      rw [Bool.eq_iff_iff, Bool.and_eq_true_iff, List.any_eq_true, List.any_eq_true]
      constructor
      · rintro ⟨⟨c, hc, hq⟩, hn⟩
        obtain ⟨_, q⟩ := Bool.and_eq_true_iff.1 hq
        have q2 : c = (k : Int) := by simpa using q
        refine ⟨c, hc, ?_⟩
        simp at hn ⊢
        omega
      · rintro ⟨c, hc, hq⟩
        have hwc := List.all_eq_true.1 h2 c hc
        have hq2 : c = (k : Int) ∧ ¬ c = (n : Int) := by simpa using hq
        refine ⟨⟨c, hc, by rw [hwc]; simp [hq2.1]⟩, ?_⟩
        have : ¬ n = k := by omega
        simp [this]
    have hoth : ∀ i k, i ≠ n → gE (Wt.set n (wo (cm x.os) (2 ^ n))) i k = gE Wt i k := fun i k hi => by
      unfold gE
      have e : ¬ n = i := fun q => hi q.symm
      simp [List.getD, List.getElem?_set, e]
    refine ⟨fun i k hi hk => ?_, fun i hi => ?_⟩
    · by_cases q : i = n
      · subst q
        rw [hbit k hk]
        unfold gset
        rw [if_pos (by omega), Nat.add_sub_cancel_left]
      · rw [hoth i k q]
        unfold gset
        rw [if_neg (by omega)]
        exact h.jn i k hi hk
    · by_cases q : i = n
      · subst q
        rw [hbit i hi, List.any_eq_false]
        intro c hc
        simp
      · rw [hoth i i q]; exact h.self i hi

theorem gb_wait {x : Wi} (h : Gb w wr d b Wt F) (hT : Tab w) (hx : x.ok w) :
    Calls Tryd.prog 7 #[.pointer (some ⟨d, 0, none⟩), .int .i64 x.w, .slice x.ao x.len x.cap] wr fun e w' => e = .returned (.int .i64 (wtE x)) ∧ Gb w w' d b (wtN Wt x) F := by
  refine (wait_any h.gm (hT.below h.bl hT.1) (Seq.keep hx h.bl) x.w).mono ?_
  rintro e w' (⟨h1, h2, rfl, q, rfl⟩ | ⟨h1, rfl, rfl⟩)
  · have hok : okw x = true := by unfold okw; rw [h1, h2]; rfl
    unfold wtE wtN
    rw [hok, if_pos rfl, if_pos rfl]
    refine ⟨rfl, Gb.drewN ⟨h.gm.set (wo_lt (cm_lt _)), h.gr.setOther (fun q => h.ne q.symm) _, h.hd, h.hb, h.ne, h.bl.setCell h.hd _⟩ q⟩
  · have hok : okw x = false := h1
    unfold wtE wtN
    rw [hok]
    exact ⟨rfl, h⟩
theorem gb_rwait {x : Wi} (h : Gb w wr d b Wt F) (hx : x.ok w) :
    Calls Tryd.prog 8 #[.pointer (some ⟨b, 0, none⟩), .int .i64 x.w, .slice x.ao x.len x.cap] wr fun e w' => e = .returned (.int .i64 (wtE x)) ∧ Gb w w' d b Wt (wtF F x) := by
  refine (rwait_any h.gr (fun hl a ha => ?_) (Seq.keep hx h.bl) x.w).mono ?_
  · obtain ⟨g, off, e, hg, _⟩ := Seq.num hx hl
    rw [ha] at e
    have e2 := Option.some.inj e
    subst e2
    have := h.hb
    show g ≠ b
    omega
  · rintro e w' (⟨h1, h2, rfl, q, r⟩ | ⟨h1, rfl, rfl⟩)
    · have hok : okw x = true := by unfold okw; rw [h1, h2]; rfl
      unfold wtE wtF
      rw [hok, if_pos rfl, if_pos rfl]
      exact ⟨rfl, h.gm.keep (q.other _ h.ne), r, h.hd, h.hb, h.ne, q.below h.bl h.hb⟩
    · have hok : okw x = false := h1
      unfold wtE wtF
      rw [hok]
      exact ⟨rfl, h⟩
end
end Go.Proofs.YtafbchjmjfpilaaDoor
