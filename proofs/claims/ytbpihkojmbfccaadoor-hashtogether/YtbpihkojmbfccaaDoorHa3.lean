/-
  link: a key is put into a chain; an operation in memory; answer, isMissing.
-/
import Derived.Test.YtbpihkojmbfccaaDoorHa2
set_option linter.unusedVariables false
set_option linter.unusedSimpArgs false
namespace Go.Proofs.YtbpihkojmbfccaaDoor
open Go.RowKit Go.Maps

theorem key_int (c : Nat) (hc : c ≤ 65536) : keyOf Tryd.prog 3 (.int .i64 (c : Int)) = some (.int .i64 (c : Int)) := by
  have hw : (Lit.int .i64 (c : Int)).wf = true := by
    have a1 : IntKind.i64.min = -9223372036854775808 := rfl
    have a2 : IntKind.i64.max = 9223372036854775807 := rfl
    simp only [Lit.wf, Bool.and_eq_true, decide_eq_true_eq, a1, a2]
    omega
  simp [keyOf, Tryd.underlying3, mapKey, hw]

theorem Md.put {D : DataW Value} {L L' : List En} (h : Md D L) {e : En} (hc : e.c ≤ 65536) (hne : ∀ x ∈ L, x.c ≠ e.c) (hp : L'.Perm (L ++ [e])) : Md (D.put (.int .i64 (e.c : Int)) (.held (enV e))) L' := by
  have hk : WideAt.IsKeyLit (.int .i64 (e.c : Int)) := cellKeyed.key (key_int e.c hc)
  have hm : ∀ x, x ∈ L' ↔ x ∈ L ∨ x = e := fun x => by rw [hp.mem_iff]; simp
  have hlit : ∀ x ∈ L, (Lit.int .i64 (x.c : Int)) ≠ .int .i64 (e.c : Int) := fun x hx q => by
    simp at q
    exact hne x hx (by omega)
  refine ⟨h.is.put _ _, fun x hx z => ?_, fun x hx => ?_, fun kl hkl => ?_⟩
  · rcases (hm x).1 hx with h1 | h1
    · rw [atKey_put_other (hlit x h1)]
      exact h.get x h1 z
    · subst h1
      exact atKey_put_same h.is hk _ z
  · rcases (hm x).1 hx with h1 | h1
    · rw [has_put_other (hlit x h1)]
      exact h.has x h1
    · subst h1
      exact has_put_same h.is hk _
  · by_cases e1 : kl = .int .i64 (e.c : Int)
    · exact ⟨e, (hm e).2 (.inr rfl), e1⟩
    · rw [has_put_other e1] at hkl
      obtain ⟨x, hx, h2⟩ := h.only kl hkl
      exact ⟨x, (hm x).2 (.inl hx), h2⟩

section
variable {w w' : World} {K : Nat → Prop} {tb d g hb hc mb : Nat} {sv : Value} {D : DataW Value} {T : List Bool} {N : List Int} {m : Int} {F : List Nat} {s : Tb}

/-- The map has a key more. -/
theorem Hm.mapped (h : Hm w K tb d g hb hc mb sv D T N m F s) {b : Nat} (hb2 : b < s.ch.length) {e : En} (hcl : e.c ≤ 65536) (hne : ∀ x ∈ s.all, x.c ≠ e.c) {w1 : World}
    (ho : w1.ownsMap Tryd.prog 3 RVh mb (s.all.length + 1) (D.put (.int .i64 (e.c : Int)) (.held (enV e)))) (hg : w.grownBy w1 (some mb)) :
    Hm w1 K tb d g hb hc mb sv (D.put (.int .i64 (e.c : Int)) (.held (enV e))) T N m F { s with ch := s.ch.set b (s.at b ++ [e]) } := by
  obtain ⟨⟨n1, n2, n3, n4, n5, n6, n7, n8, n9, n10⟩, n11⟩ := h.ne
  have k : Fr (fun j => j = mb) w w1 := Fr.grown hg (fun j e => by cases e; rfl)
  have hp : ({ s with ch := s.ch.set b (s.at b ++ [e]) } : Tb).all.Perm (s.all ++ [e]) := flatten_set s.ch b hb2
  have hl : ({ s with ch := s.ch.set b (s.at b ++ [e]) } : Tb).all.length = s.all.length + 1 := by rw [hp.length_eq]; simp
  refine ⟨h.aw.fr k n7 n9, h.tk.same (k.block tb h.tk.lt n4), hrow_fr h.hd k (fun j e => by cases e; exact n10), ?_, h.md.put hcl hne hp, hrow_fr h.sp k (fun j e => (n11 j e).2.2.2.2), h.ap, h.tab.fr k (fun e => h.k0 (h.kk 0 (by simp [e]))), h.k0, h.kk, fun j hj => Nat.lt_of_lt_of_le (h.kl j hj) k.size⟩
  rw [hl]
  exact ho

theorem u64_succ (c : Nat) (hc : c ≤ 65536) : IntKind.u64.wrap (IntKind.u64.wrap (c : Int) + 1) = (c : Int) + 1 := by
  rw [IntKind.wrap_u64, IntKind.wrap_u64]; omega

set_option maxRecDepth 100000 in
set_option maxHeartbeats 2000000 in
/-- link, where the chain has not ended there. -/
theorem Hm.link_no (h : Hm w K tb d g hb hc mb sv D T N m F s) {p c : Nat} (hp : T.getD p false = true) (hv : N.getD p 0 ≠ 0) (hc1 : c ≤ 65536) (hm : 0 ≤ m ∧ m < 4611686018427387904) (k : ByteArray) (r : Int) :
    Calls Tryd.prog 50 #[.pointer (some ⟨tb, 0, none⟩), .int .i64 (p : Int), .int .i64 (c : Int), .agg #[.string k, .int .i64 r]] w fun e w' => e = .returned (.bool false) ∧ Hm w' K tb d g hb hc mb sv D T N (m + 1) F s ∧ Fr (fun j => j = d ∨ j = g) w w' := by
  obtain ⟨w1, hw1⟩ : ∃ x, x = w.alloc (.cells #[.string k, .int .i64 r] 76) := ⟨_, rfl⟩
  have hF1 : Fr (fun _ => False) w w1 := by rw [hw1]; exact (Fr.refl _ w).alloc _
  have h1 := h.keep hF1 (fun _ _ e => e) (fun e => e)
  obtain ⟨c0, c1, c2, c3⟩ := h1.tk.cells
  have hlt := h.tk.lt
  have hcas := CAS_any h1.aw (p : Int) 0 ((c : Int) + 1) (by decide) (by omega) hm
  have hw := u64_succ c hc1
  have HC := hide2 hcas
  have H1 := hide2 h1
  have HV := hide2 hv
  clear hcas h1
  have hlen := h.aw.len
  have hl := getD_lt hp
  subst hw1
  clear h
  go_enter Tryd.func50, Tryd.ntmps50
  go_wp2_with fail
  refine HC.out.mono ?_
  rintro e w2 ⟨v, x, rfl, hD⟩
  obtain ⟨e1, e2, hA⟩ := hD.yes (tk_of hp)
  have ea : act 3 0 ((c : Int) + 1) (N.getD (p : Int).toNat 0) = (0, N.getD p 0) := by
    unfold act
    rw [if_neg (by decide), if_neg (by decide), if_pos rfl, if_neg (by simpa using HV.out)]
    rfl
  rw [ea] at e1 hA
  rw [show N.set (p : Int).toNat (N.getD p 0) = N from set_self N p (by omega)] at hA
  have hX := H1.out.arena hD.fr hA
  have HX := hide2 hX
  have HF := hide2 hD.fr
  clear hX hA HC hD ea
  simp only at e1
  subst e1 e2
  go_wp2
  go_ret
  exact ⟨rfl, HX.out, (hF1.mono (G := fun j => j = d ∨ j = g) (fun _ _ e => e.elim)).trans HF.out (fun j e => .inl e)⟩

set_option maxRecDepth 100000 in
set_option maxHeartbeats 4000000 in
/-- link, where the chain has ended. -/
theorem Hm.link_yes (h : Hm w K tb d g hb hc mb sv D T N m F s) {p b c : Nat} {k : ByteArray} {r : Int} (hp : T.getD p false = true) (hv : N.getD p 0 = 0) (hb2 : b < s.ch.length) (hcs : c ∈ s.sp) (hcl : c ≤ 65536) (hne : ∀ x ∈ s.all, x.c ≠ c) (hal : s.all.length ≤ 1000000) (hl2 : s.sp.length ≤ 1000000) (hm : 0 ≤ m ∧ m < 4611686018427387904) :
    Calls Tryd.prog 50 #[.pointer (some ⟨tb, 0, none⟩), .int .i64 (p : Int), .int .i64 (c : Int), .agg #[.string k, .int .i64 r]] w fun e w' => e = .returned (.bool true) ∧ ∃ sv' D', Hm w' K tb d g hb hc mb sv' D' T (N.set p ((c : Int) + 1)) (m + 1) F (s.linked b ⟨c, k, r⟩) ∧ Fr K w w' := by
  obtain ⟨w1, hw1⟩ : ∃ x, x = w.alloc (.cells #[.string k, .int .i64 r] 76) := ⟨_, rfl⟩
  have hF1 : Fr (fun _ => False) w w1 := by rw [hw1]; exact (Fr.refl _ w).alloc _
  have hb1 : w1.heap[w.heap.size]? = some (.cells #[.string k, .int .i64 r] 76 (0, 0)) := by rw [hw1]; exact heap_alloc_new w _
  have hsz : w1.heap.size = w.heap.size + 1 := by rw [hw1]; simp
  have h1 := h.keep hF1 (fun _ _ e => e) (fun e => e)
  obtain ⟨c0, c1, c2, c3⟩ := h1.tk.cells
  have hlt := h.tk.lt
  have hcas := CAS_any h1.aw (p : Int) 0 ((c : Int) + 1) (by decide) (by omega) hm
  have hw := u64_succ c hcl
  have HC := hide2 hcas
  have H := hide2 h
  have H1 := hide2 h1
  have HB1 := hide2 hb1
  have HSZ := hide2 hsz
  clear hcas h1 hb1 hsz
  have hlen := h.aw.len
  have hl := getD_lt hp
  subst hw1
  clear h
  go_enter Tryd.func50, Tryd.ntmps50
  go_wp2_with fail
  refine HC.out.mono ?_
  rintro e w2 ⟨v, x, rfl, hD⟩
  obtain ⟨e1, e2, hA⟩ := hD.yes (tk_of hp)
  have ea : act 3 0 ((c : Int) + 1) (N.getD (p : Int).toNat 0) = (1, (c : Int) + 1) := by
    unfold act
    rw [if_neg (by decide), if_neg (by decide), if_pos rfl, if_pos (by simpa using hv)]
  rw [ea] at e1 hA
  have h2 := H1.out.arena hD.fr hA
  have hk0 := H.out.kl
  have hb2' : w2.heap[w.heap.size]? = some (.cells #[.string k, .int .i64 r] 76 (0, 0)) := (hD.fr.block w.heap.size (by rw [HSZ.out]; omega) (by
    have l1 := H.out.kl d (H.out.kk d (by simp))
    have l2 := H.out.kl g (H.out.kk g (by simp))
    rintro (e | e) <;> omega)).trans HB1.out
  have b0 : w2.cell? ⟨w.heap.size, 0, none⟩ = some (.string k) := by rw [Go.Joins.cell_of_block hb2']; rfl
  have b1 : w2.cell? ⟨w.heap.size, 1, none⟩ = some (.int .i64 r) := by rw [Go.Joins.cell_of_block hb2']; rfl
  have hFd : Fr (fun _ => False) w2 w2.drew := (Fr.refl _ w2).drew
  have h2d := h2.keep hFd (fun _ _ e => e) (fun e => e)
  obtain ⟨w3, hrun, ho3, hg3⟩ := h2d.mp.update cellKeyed Tryd.underlying70 (by unfold maxLen; omega) (key_int c hcl) (val := .agg #[.string k, .int .i64 r]) (d := .held (.agg #[.string k, .int .i64 r])) (ps := []) rfl
  obtain ⟨d0, d1, d2, d3⟩ := h2.tk.cells
  have h3 := h2d.mapped hb2 (e := ⟨c, k, r⟩) hcl hne ho3 hg3
  have hN := h3.noMore (c := c) hcs hl2
  have HN := hide2 hN
  have HF2 := hide2 hD.fr
  have HG := hide2 hg3
  have hs2 := hD.fr.size
  have hlt2 : tb < w2.heap.size := h2.tk.lt
  have hlt3 : tb < w3.heap.size := h3.tk.lt
  clear hN hA HC hD ea h2 h2d h3 c0 c1 c2 c3 ho3 hg3 hb2'
  simp only at e1
  subst e1 e2
  go_wp2
  go_region
  all_goals
    go_wp2_with fail
    refine HN.out.mono ?_
    rintro e w4 ⟨rfl, sv', hH, hK, hF4⟩
    go_wp2
    go_ret
    have hFK : Fr K w w2 := (hF1.mono (G := K) (fun _ _ e => e.elim)).trans HF2.out (fun j e => .inl (H.out.kk j (by rcases e with e | e <;> simp [e])))
    have hFL : Fr K w w3 := (hFK.trans hFd (fun j e => e.elim)).trans (G := fun j => j = mb) (Fr.grown HG.out (fun j e => by cases e; rfl)) (fun j e => .inl (H.out.kk j (by simp [e])))
    exact ⟨rfl, sv', _, hH.more (fun j => ⟨fun e => .inl e, fun e => e.elim id (hK j)⟩), hFL.trans hF4 (fun j e => .inl e)⟩
end

/-! ### An operation -/
/-- An operation: pos: how many keys of its chain it has passed (that is not in memory). -/
structure Opm where
  ins : Bool
  k : ByteArray
  r : Int
  had : Bool
  code : Int
  st : Nat
  pl : Nat
  cell : Option Nat
  full : Bool
  pos : Nat

def cellI : Option Nat → Int
  | none => -1
  | some c => (c : Int)
def Om (w : World) (ob : Nat) (tv : Value) (o : Opm) : Prop :=
  w.heap[ob]? = some (.cells #[tv, .bool o.ins, .string o.k, .int .i64 o.r, .bool o.had, .int .i64 o.code, .int .i64 (o.st : Int), .int .i64 (o.pl : Int), .int .i64 (cellI o.cell), .bool o.full] 69 (0, 0))
section
variable {w w' : World} {ob : Nat} {tv : Value} {o : Opm}
theorem Om.lt (h : Om w ob tv o) : ob < w.heap.size := (Array.getElem?_eq_some_iff.1 h).1
theorem Om.cells (h : Om w ob tv o) : w.cell? ⟨ob, 0, none⟩ = some tv ∧ w.cell? ⟨ob, 1, none⟩ = some (.bool o.ins) ∧ w.cell? ⟨ob, 2, none⟩ = some (.string o.k) ∧ w.cell? ⟨ob, 3, none⟩ = some (.int .i64 o.r) ∧ w.cell? ⟨ob, 4, none⟩ = some (.bool o.had) ∧
    w.cell? ⟨ob, 5, none⟩ = some (.int .i64 o.code) ∧ w.cell? ⟨ob, 6, none⟩ = some (.int .i64 (o.st : Int)) ∧ w.cell? ⟨ob, 7, none⟩ = some (.int .i64 (o.pl : Int)) ∧ w.cell? ⟨ob, 8, none⟩ = some (.int .i64 (cellI o.cell)) ∧ w.cell? ⟨ob, 9, none⟩ = some (.bool o.full) := by
  unfold Om at h
  refine ⟨?_, ?_, ?_, ?_, ?_, ?_, ?_, ?_, ?_, ?_⟩ <;> (rw [Go.Joins.cell_of_block h]; rfl)
theorem Om.free (h : Om w ob tv o) (i : Nat) : w.frozen? ⟨ob, i, none⟩ = false := Go.Joins.unfrozen_of_block h i
theorem Om.same (h : Om w ob tv o) (e : w'.heap[ob]? = w.heap[ob]?) : Om w' ob tv o := e.trans h
theorem Om.fr {G : Nat → Prop} (h : Om w ob tv o) (k : Fr G w w') (hG : ¬ G ob) : Om w' ob tv o := h.same (k.block ob h.lt hG)
theorem Om.setSt (h : Om w ob tv o) (n : Nat) : Om (w.setCell ⟨ob, 6, none⟩ (.int .i64 (n : Int))) ob tv { o with st := n } := by
  unfold Om at *; rw [Go.Joins.block_setCell h]; rfl
theorem Om.setAt (h : Om w ob tv o) (n : Nat) : Om (w.setCell ⟨ob, 7, none⟩ (.int .i64 (n : Int))) ob tv { o with pl := n } := by
  unfold Om at *; rw [Go.Joins.block_setCell h]; rfl
theorem Om.setCell (h : Om w ob tv o) (c : Option Nat) : Om (w.setCell ⟨ob, 8, none⟩ (.int .i64 (cellI c))) ob tv { o with cell := c } := by
  unfold Om at *; rw [Go.Joins.block_setCell h]; rfl
theorem Om.setFull (h : Om w ob tv o) (x : Bool) : Om (w.setCell ⟨ob, 9, none⟩ (.bool x)) ob tv { o with full := x } := by
  unfold Om at *; rw [Go.Joins.block_setCell h]; rfl
theorem Om.setKey (h : Om w ob tv o) (x : ByteArray) : Om (w.setCell ⟨ob, 2, none⟩ (.string x)) ob tv { o with k := x } := by
  unfold Om at *; rw [Go.Joins.block_setCell h]; rfl
theorem Om.setIns (h : Om w ob tv o) (x : Bool) : Om (w.setCell ⟨ob, 1, none⟩ (.bool x)) ob tv { o with ins := x } := by
  unfold Om at *; rw [Go.Joins.block_setCell h]; rfl
theorem Om.setRef (h : Om w ob tv o) (x : Int) : Om (w.setCell ⟨ob, 3, none⟩ (.int .i64 x)) ob tv { o with r := x } := by
  unfold Om at *; rw [Go.Joins.block_setCell h]; rfl
theorem Om.setHad (h : Om w ob tv o) (x : Bool) : Om (w.setCell ⟨ob, 4, none⟩ (.bool x)) ob tv { o with had := x } := by
  unfold Om at *; rw [Go.Joins.block_setCell h]; rfl
theorem Om.setCode (h : Om w ob tv o) (x : Int) : Om (w.setCell ⟨ob, 5, none⟩ (.int .i64 x)) ob tv { o with code := x } := by
  unfold Om at *; rw [Go.Joins.block_setCell h]; rfl
theorem Om.setPos (h : Om w ob tv o) (n : Nat) : Om w ob tv { o with pos := n } := h

/-- An operation is answered. -/
def Opm.ans (o : Opm) (r : Int) (had : Bool) (code : Int) : Opm := { o with r := r, had := had, code := code, st := 3 }

set_option maxRecDepth 100000 in
set_option maxHeartbeats 1000000 in
theorem answer_any (h : Om w ob tv o) (r : Int) (had : Bool) (code : Int) :
    Calls Tryd.prog 34 #[.pointer (some ⟨ob, 0, none⟩), .int .i64 r, .bool had, .int .i64 code] w fun e w' => e = .returned (.tuple #[]) ∧ Om w' ob tv (o.ans r had code) ∧ Fr (fun j => j = ob) w w' := by
  obtain ⟨c0, c1, c2, c3, c4, c5, c6, c7, c8, c9⟩ := h.cells
  have f3 := h.free 3
  have f4 := h.free 4
  have f5 := h.free 5
  have f6 := h.free 6
  have H := hide2 h
  have hlt := h.lt
  clear h
  go_enter Tryd.func34, Tryd.ntmps34
  go_wp2
  go_end0
  refine ⟨rfl, (((H.out.setRef r).setHad had).setCode code).setSt 3, ?_⟩
  exact ((((Fr.refl (fun j => j = ob) w).setCell (p := ⟨ob, 3, none⟩) (.inl rfl) _).setCell (p := ⟨ob, 4, none⟩) (.inl rfl) _).setCell (p := ⟨ob, 5, none⟩) (.inl rfl) _).setCell (p := ⟨ob, 6, none⟩) (.inl rfl) _

/-- What an operation does at the chain's end. -/
def Opm.missed (o : Opm) : Opm := if o.ins = false then o.ans 0 false 0 else if o.full = true then o.ans 0 false 31 else { o with st := 1 }
set_option maxRecDepth 100000 in
set_option maxHeartbeats 1000000 in
theorem isMissing_any (h : Om w ob tv o) :
    Calls Tryd.prog 46 #[.pointer (some ⟨ob, 0, none⟩)] w fun e w' => e = .returned (.tuple #[]) ∧ Om w' ob tv o.missed ∧ Fr (fun j => j = ob) w w' := by
  obtain ⟨c0, c1, c2, c3, c4, c5, c6, c7, c8, c9⟩ := h.cells
  have f6 := h.free 6
  have H := hide2 h
  have hlt := h.lt
  unfold Opm.missed
  by_cases hi : o.ins = false
  · rw [hi] at c1
    rw [if_pos hi]
    have HA := hide2 (answer_any h 0 false 0)
    clear h hi
    go_enter Tryd.func46, Tryd.ntmps46
    go_wp2_with fail
    refine HA.out.mono ?_
    rintro e w' ⟨rfl, h1, h2⟩
    go_wp2
    go_end0
    exact ⟨rfl, h1, h2⟩
  · have hi2 : o.ins = true := by simpa using hi
    rw [hi2] at c1
    rw [if_neg hi]
    by_cases hf : o.full = true
    · rw [hf] at c9
      rw [if_pos hf]
      have HA := hide2 (answer_any h 0 false 31)
      clear h hi hi2 hf
      go_enter Tryd.func46, Tryd.ntmps46
      go_wp2_with fail
      refine HA.out.mono ?_
      rintro e w' ⟨rfl, h1, h2⟩
      go_wp2
      go_end0
      exact ⟨rfl, h1, h2⟩
    · have hf2 : o.full = false := by simpa using hf
      rw [hf2] at c9
      rw [if_neg hf]
      clear h hi hi2 hf hf2
      go_enter Tryd.func46, Tryd.ntmps46
      go_wp2
      go_end0
      exact ⟨rfl, H.out.setSt 1, (Fr.refl (fun j => j = ob) w).setCell (p := ⟨ob, 6, none⟩) (.inl rfl) _⟩
end
end Go.Proofs.YtbpihkojmbfccaaDoor
