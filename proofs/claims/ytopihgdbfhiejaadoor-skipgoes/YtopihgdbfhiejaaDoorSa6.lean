/-
  Cells that no tower has: own, noMoreSpare. (Printed by gen_sa6.py.)
-/
import Derived.Test.YtopihgdbfhiejaaDoorSa5
import Derived.Test.YtopihgdbfhiejaaDoorShelf9
import Derived.Sort.OwnSortedInts
import Derived.Deep.RegionHeld3
set_option linter.unusedVariables false
set_option linter.unusedSimpArgs false
namespace Go.Proofs.YtopihgdbfhiejaaDoor
open Go.RowKit Go.Maps Go.Sort Go.Shelf Go.Lib

theorem row_short {W : World} {base g n cap k : Nat} {e : TypeId} {xs : List Value} (h : W.ownsRow base e 1 (.slice (some ⟨g, 0, none⟩) n cap) n xs) (hk : k ≤ n) : W.ownsRow base e 1 (.slice (some ⟨g, 0, none⟩) k cap) k (xs.take k) := by
  obtain ⟨h1, h2⟩ := h
  refine ⟨by rw [List.length_take]; omega, ?_⟩
  rcases h2 with ⟨e0, _⟩ | ⟨g', cap', cur, ev, hb, hh, c1, c2, c3, c4⟩
  · cases e0
  · cases ev
    refine .inr ⟨g, cap, cur, rfl, hb, hh, by omega, c2, c3, ?_⟩
    rw [← c4, List.take_take]
    congr 1
    omega
theorem filter_cast (l : List Nat) (p : Int → Bool) : (l.map fun x : Nat => (x : Int)).filter (fun x => !p x) = (l.filter fun x : Nat => !p (x : Int)).map fun x : Nat => (x : Int) := by
  induction l with
  | nil => rfl
  | cons x xs ih =>
    cases e : p (x : Int) with
    | true => rw [List.map_cons, List.filter_cons_of_neg (by simp [e]), List.filter_cons_of_neg (by simp [e]), ih]
    | false => rw [List.map_cons, List.filter_cons_of_pos (by simp [e]), List.filter_cons_of_pos (by simp [e]), ih, List.map_cons]

set_option maxHeartbeats 1000000 in
theorem indexFunc_nil {w : World} (ao : Option Addr) (cap : Nat) (fv : Value) :
    Calls Tryd.prog 94 #[.slice ao 0 cap, fv] w fun e w' => e = .returned (.int .i64 (-1)) ∧ w' = w := by
  go_enter Tryd.func94, Tryd.ntmps94
  go_wp2
  go_loop [8, 5] (fun i _ => i = .int .i64 0) (fun i _ => 0)
  case atStart => rfl
  case round =>
    subst hrel
    go_wp2
    go_ret
    exact ⟨rfl, rfl⟩
set_option maxHeartbeats 1000000 in
theorem del_nil {w : World} (ao : Option Addr) (cap : Nat) (fv : Value) :
    Calls Tryd.prog 79 #[.slice ao 0 cap, fv] w fun e w' => e = .returned (.slice ao 0 cap) ∧ w' = w := by
  go_enter Tryd.func79, Tryd.ntmps79
  go_wp2_with fail
  refine (indexFunc_nil ao cap fv).mono ?_
  rintro e w' ⟨rfl, rfl⟩
  go_wp2
  go_ret
  exact ⟨rfl, rfl⟩

/-- slices.DeleteFunc of a row of numbers. -/
theorem del_gen {w : World} {base : Nat} {v : Value} {l : List Nat} (h : Hr w base v l) (hl2 : l.length ≤ 1000000) (p : Int → Bool) (f : Nat) (lb : Array Value) (eg : ∀ args w, (callFunc f args).run Tryd.prog w = .ok (.enter f args) w)
    (hp : PredAt Tryd.prog f lb (Value.int .i64) p w) (hpo : ∀ blk size, v.ownBlock = some blk → PredOver Tryd.prog f lb (Value.int .i64) p blk 0 size w) :
    Calls Tryd.prog 79 #[v, .func (.func f) #[] lb] w fun e w' => ∃ v', e = .returned v' ∧ Hr w' base v' (l.filter fun x : Nat => !p (x : Int)) ∧ v'.ownBlock = v.ownBlock ∧ Fr (fun j => v.ownBlock = some j) w w' := by
  by_cases hl : l.length = 0
  · obtain ⟨ao, cap, rfl⟩ := h.form
    have e0 : l = [] := List.length_eq_zero_iff.1 hl
    subst e0
    refine (del_nil (w := w) ao cap _).mono ?_
    rintro e w' ⟨rfl, rfl⟩
    exact ⟨_, rfl, h, rfl, Fr.refl _ _⟩
  rcases h.2 with ⟨rfl, h0⟩ | ⟨g, cap, cur, rfl, hg, hh, hn, hm, hs, ht⟩
  · omega
  have ht2 : cur.toList.take (l.map fun x : Nat => (x : Int)).length = (l.map fun x : Nat => (x : Int)).map (Value.int .i64) := by
    rw [List.length_map]
    rw [Nat.mul_one] at ht
    rw [ht]
    simp [nv]
  have hcon := AnyE.slices_DeleteFunc delL (Value.int .i64) (fun _ => rfl) p f lb eg 0 Tryd.zeroValue3 g 0 cap (l.map fun x : Nat => (x : Int)).toArray w
    hp (hpo g _ rfl) (holds_of_blockI hh ht2) (by simp; omega) (by simpa using hn)
  change Calls Tryd.prog 79 _ _ _ at hcon
  have e1 : (l.map fun x : Nat => (x : Int)).toArray.size = l.length := by simp
  rw [e1] at hcon
  refine hcon.mono ?_
  rintro e w' ⟨rfl, q, rfl⟩
  simp only [List.toList_toArray, filter_cast]
  obtain ⟨r, hr⟩ : ∃ r, r = l.filter fun x : Nat => !p (x : Int) := ⟨_, rfl⟩
  have hrl : r.length ≤ l.length := by rw [hr]; exact List.length_filter_le _ _
  rw [← hr, List.length_map]
  obtain ⟨ts, hts⟩ : ∃ ts : List Int, ts = (r.map fun x : Nat => (x : Int)) ++ List.replicate (l.length - r.length) 0 := ⟨_, rfl⟩
  rw [← hts]
  have htl : ts.length = (l.map fun x : Nat => (x : Int)).length := by rw [hts]; simp; omega
  have := ownsRow_sortedI (n := q) (os := #[]) (ts := ts) (ss := (l.map fun x : Nat => (x : Int))) htl hg hh (by simpa using hn) hm hs
  rw [grow_empty, List.length_map] at this
  refine ⟨_, rfl, ?_, rfl, ?_⟩
  · have h3 := row_short this hrl
    have e4 : (ts.map (Value.int .i64)).take r.length = r.map nv := by
      rw [hts, List.map_append, List.take_append_of_le_length (by simp), List.take_of_length_le (by simp)]
      simp [nv]
    rw [e4] at h3
    exact h3
  · have := grownBy_sortedI (w := w) (g := g) (n := q) (os := #[]) ts.toArray
    rw [grow_empty] at this
    exact Fr.grown this (fun j e => by cases e; rfl)
theorem fr_sort {w : World} {g n : Nat} {os : Array Obj} {dk : Array Int} : Fr (fun j => j = g) w (sortWorld (Value.int .i64) w g 0 n dk os) := by
  have := grownBy_sortedI (w := w) (g := g) (n := n) (os := os) dk
  exact Fr.grown this (fun j e => by cases e; rfl)

abbrev lpp (lb : Nat) : Value := .pointer (some ⟨lb, 0, none⟩)
/-- An operation in memory, with the row of its cells; its own blocks are among B's. -/
structure Ob (w : World) (B : Nat → Prop) (ob lb : Nat) (cv : Value) (o : Opm) : Prop where
  om : Om w ob (lpp lb) cv o
  row : Hr w 0 cv o.cs
  b0 : ¬ B 0
  kk : ∀ j, (j = ob ∨ cv.ownBlock = some j) → B j
  kl : ∀ j, B j → j < w.heap.size
section
variable {w w' : World} {B : Nat → Prop} {ob lb : Nat} {cv : Value} {o : Opm}
theorem Ob.keep {G : Nat → Prop} (h : Ob w B ob lb cv o) (k : Fr G w w') (hG : ∀ j, B j → ¬ G j) : Ob w' B ob lb cv o :=
  ⟨h.om.fr k (hG ob (h.kk ob (.inl rfl))), hrow_fr h.row k (fun j e => hG j (h.kk j (.inr e))), h.b0, h.kk, fun j hj => Nat.lt_of_lt_of_le (h.kl j hj) k.size⟩
theorem Ob.below (h : Ob w B ob lb cv o) (hb : Below w.heap.size w w') : Ob w' B ob lb cv o := h.keep (Fr.below (F := fun _ => False) hb) (fun _ _ => id)
theorem Ob.ne (h : Ob w B ob lb cv o) : cv.ownBlock ≠ some ob := fun e => by
  obtain ⟨c, f, h1⟩ := h.row.kind e
  have := h.om
  unfold Om at this
  rw [this] at h1; simp at h1
/-- A change of the operation's own cells, but for the row's. -/
theorem Ob.put {o' : Opm} (h : Ob w B ob lb cv o) (ho : Om w' ob (lpp lb) cv o') (hc : o'.cs = o.cs) (k : Fr (fun j => j = ob) w w') : Ob w' B ob lb cv o' :=
  ⟨ho, by rw [hc]; exact hrow_fr h.row k (fun j e q => h.ne (q ▸ e)), h.b0, h.kk, fun j hj => Nat.lt_of_lt_of_le (h.kl j hj) k.size⟩
end

section
variable {w w' : World} {K B : Nat → Prop} {lb d g gt tc : Nat} {sv : Value} {T : List Bool} {N : List Int} {m : Int} {F : List Nat} {s : Sl} {ob : Nat} {cv : Value} {o : Opm}

set_option maxHeartbeats 1000000 in
/-- own's closure. -/
theorem own_gives {W : World} {X : Nat} {sp : List Nat} (x : Int) (c0 : W.cell? ⟨X, 0, none⟩ = some (.pointer (some ⟨ob, 0, none⟩))) (c1 : W.cell? ⟨ob, 0, none⟩ = some (lpp lb)) (c2 : W.cell? ⟨lb, 2, none⟩ = some sv) (hs : Hr W 0 sv sp) :
    FnGives Tryd.prog 80 #[.pointer (some ⟨X, 0, none⟩)] #[.int .i64 x] (.bool (!(sp.map fun c : Nat => (c : Int)).contains x)) W := by
  show Calls Tryd.prog 80 #[.int .i64 x, .pointer (some ⟨X, 0, none⟩)] W _
  obtain ⟨ao, cap, rfl, hq⟩ := hs.seq
  have HC := hide2 (hContains_any hq x)
  generalize (sp.map fun c : Nat => (c : Int)).contains x = b at HC ⊢
  clear hs hq
  go_enter Tryd.func80, Tryd.ntmps80
  go_wp2_with fail
  refine HC.out.mono ?_
  rintro e w' ⟨rfl, rfl⟩
  go_wp2
  go_ret
  exact ⟨rfl, 0, rfl⟩
set_option maxHeartbeats 1000000 in
theorem more_gives {W : World} {X : Nat} {v : Value} {us : List Nat} (x : Int) (c0 : W.cell? ⟨X, 0, none⟩ = some v) (hs : Hr W 0 v us) :
    FnGives Tryd.prog 84 #[.pointer (some ⟨X, 0, none⟩)] #[.int .i64 x] (.bool ((us.map fun c : Nat => (c : Int)).contains x)) W := by
  show Calls Tryd.prog 84 #[.int .i64 x, .pointer (some ⟨X, 0, none⟩)] W _
  obtain ⟨ao, cap, rfl, hq⟩ := hs.seq
  have HC := hide2 (hContains_any hq x)
  generalize (us.map fun c : Nat => (c : Int)).contains x = b at HC ⊢
  clear hs hq
  go_enter Tryd.func84, Tryd.ntmps84
  go_wp2_with fail
  refine HC.out.mono ?_
  rintro e w' ⟨rfl, rfl⟩
  go_wp2
  go_ret
  exact ⟨rfl, 0, rfl⟩
theorem eg_own : ∀ args w, (callFunc 80 args).run Tryd.prog w = .ok (.enter 80 args) w := enters_of Tryd.func80 (by kernel_rfl) rfl
theorem eg_more : ∀ args w, (callFunc 84 args).run Tryd.prog w = .ok (.enter 84 args) w := enters_of Tryd.func84 (by kernel_rfl) rfl
theorem contains_cast (l : List Nat) (x : Nat) : (l.map fun c : Nat => (c : Int)).contains (x : Int) = l.contains x := by
  rw [Bool.eq_iff_iff]
  simp
  constructor
  · rintro ⟨a, h1, h2⟩; have : a = x := by omega
    rw [← this]; exact h1
  · intro h; exact ⟨x, h, rfl⟩

/-- The cells that an operation still has. -/
def Opm.owned (o : Opm) (s : Sl) : Opm := { o with cs := o.cs.filter fun c => s.sp.contains c }

set_option maxRecDepth 100000 in
set_option maxHeartbeats 4000000 in
theorem own_raw {Q : World → Value → Prop} (X : Nat) (hX : X = w.heap.size) (w1 : World) (hw1 : w1 = w.alloc (.cells #[.pointer (some ⟨ob, 0, none⟩)] 35)) (hob : ob < w.heap.size)
    (s1 : w1.cell? ⟨X, 0, none⟩ = some (.pointer (some ⟨ob, 0, none⟩))) (c39 : w.cell? ⟨ob, 39, none⟩ = some cv)
    (hR : ∀ u v, Q u v → u.cell? ⟨X, 0, none⟩ = some (.pointer (some ⟨ob, 0, none⟩)) ∧ (u.cell? ⟨ob, 39, none⟩ = some cv) ∧ u.frozen? ⟨ob, 39, none⟩ = false ∧ ∃ a n c, v = .slice a n c)
    (hC : Calls Tryd.prog 79 #[cv, .func (.func 80) #[] #[.pointer (some ⟨X, 0, none⟩)]] w1.drew fun e w' => ∃ v', e = .returned v' ∧ Q w' v') :
    Calls Tryd.prog 59 #[.pointer (some ⟨ob, 0, none⟩)] w fun e w' => ∃ u v', e = .returned v' ∧ Q u v' ∧ w' = u.setCell ⟨ob, 39, none⟩ v' := by
  have HC := hide2 hC
  have HR := hide2 hR
  have hmf := made_func
  have hne : ¬ X = ob := by omega
  have hne2 : ¬ ob = X := by omega
  have c39' : w1.cell? ⟨ob, 39, none⟩ = some cv := by rw [hw1, World.cell?_alloc_lt _ _ _ hob]; exact c39
  clear hC hR c39
  subst hX hw1
  go_enter Tryd.func59, Tryd.ntmps59
  go_wp2_with fail
  generalize hW : w.alloc (.cells #[.pointer (some ⟨ob, 0, none⟩)] 35) = W at *
  generalize hXX : w.heap.size = X at *
  refine wp_region_noPanic ?_
  refine wp_region_held_drew (S := (fun u : World => u.cell? ⟨X, 0, none⟩ = some (.pointer (some ⟨ob, 0, none⟩)))) (by kernel_rfl) (s1) (fun hHeld => ?_)
  refine wpAnyH_take (i := 0) (oi := { dst := some 3, op := _, type := _, pos := _, after := _, guard := _ }) (v := ?_) rfl (by kernel_rfl) (by kernel_rfl) (by kernel_rfl) (fun _ _ _ h => h) (Or.inl ⟨by rfl, ?_⟩) (by assumption) ?_
  rotate_left 1
  · intro u hSw; obtain s1 := hSw; go_simp; try with_reducible rfl
  try simp only [Act.put, List.setIfInBounds_toArray, List.set_cons_zero, List.set_cons_succ]
  refine wpAnyH_take (i := 1) (oi := { dst := some 4, op := _, type := _, pos := _, after := _, guard := _ }) (v := ?_) rfl (by kernel_rfl) (by kernel_rfl) (by kernel_rfl) (fun _ _ _ h => h) (Or.inl ⟨by rfl, ?_⟩) (by assumption) ?_
  rotate_left 1
  · intro u hSw; obtain s1 := hSw; go_simp; try with_reducible rfl
  try simp only [Act.put, List.setIfInBounds_toArray, List.set_cons_zero, List.set_cons_succ]
  refine wpAnyH_take (i := 2) (oi := { dst := some 5, op := _, type := _, pos := _, after := _, guard := _ }) (v := ?_) rfl (by kernel_rfl) (by kernel_rfl) (by kernel_rfl) (fun _ _ _ h => h) (Or.inl ⟨by rfl, ?_⟩) (by assumption) ?_
  rotate_left 1
  · intro u hSw; obtain s1 := hSw; go_simp; try with_reducible rfl
  try simp only [Act.put, List.setIfInBounds_toArray, List.set_cons_zero, List.set_cons_succ]
  refine wpAnyH_take (i := 3) (oi := { dst := some 6, op := _, type := _, pos := _, after := _, guard := _ }) (v := ?_) rfl (by kernel_rfl) (by kernel_rfl) (by kernel_rfl) (fun _ _ _ h => h) (Or.inl ⟨by rfl, ?_⟩) (by assumption) ?_
  rotate_left 1
  · intro u hSw; obtain s1 := hSw; go_simp; try with_reducible rfl
  try simp only [Act.put, List.setIfInBounds_toArray, List.set_cons_zero, List.set_cons_succ]
  refine wpAnyH_take (i := 5) (oi := { dst := some 8, op := _, type := _, pos := _, after := _, guard := _ }) (v := ?_) rfl (by kernel_rfl) (by kernel_rfl) (by kernel_rfl) (fun _ _ _ h => h) (Or.inl ⟨by rfl, ?_⟩) (by assumption) ?_
  rotate_left 1
  · intro u hSw; obtain s1 := hSw; go_simp; try with_reducible rfl
  try simp only [Act.put, List.setIfInBounds_toArray, List.set_cons_zero, List.set_cons_succ]
  refine wpAnyH_ready (rs := [4]) (by kernel_rfl) (by simp) ?_
  refine AllReadyH.cons (o := { dst := some 7, op := _, type := _, pos := _, after := _, guard := _ }) rfl (fun K hK => ?_) AllReadyH.nil
  obtain s1 := hHeld
  go_simp
  go_wp2_with fail
  refine hK.out _ _ (s1) (fun hHeld => ?_)
  clear hK K
  try simp only [Act.put, List.setIfInBounds_toArray, List.set_cons_zero, List.set_cons_succ]
  refine wpAnyH_ready (rs := [6]) (by kernel_rfl) (by simp) ?_
  refine AllReadyH.cons (o := { dst := some 9, op := _, type := _, pos := _, after := _, guard := _ }) rfl (fun K hK => ?_) AllReadyH.nil
  obtain s1 := hHeld
  go_simp
  refine HC.out.mono ?_
  rintro e w2 ⟨v', rfl, h2⟩
  obtain ⟨q1, q2, q3, va, vn, vc, hve⟩ := HR.out _ _ h2
  subst hve
  have H2 := hide2 h2
  clear h2 HC
  go_wp2_with fail
  refine hK.out _ _ (q1) (fun hHeld => ?_)
  clear hK K
  try simp only [Act.put, List.setIfInBounds_toArray, List.set_cons_zero, List.set_cons_succ]
  refine wpAnyH_take (i := 7) (oi := { dst := some 10, op := _, type := _, pos := _, after := _, guard := _ }) (v := ?_) rfl (by kernel_rfl) (by kernel_rfl) (by kernel_rfl) (fun _ _ _ h => h) (Or.inl ⟨by rfl, ?_⟩) (by assumption) ?_
  rotate_left 1
  · intro u hSw; obtain s1 := hSw; go_simp; try with_reducible rfl
  try simp only [Act.put, List.setIfInBounds_toArray, List.set_cons_zero, List.set_cons_succ]
  refine wpAnyH_take (i := 8) (oi := { dst := some 11, op := _, type := _, pos := _, after := _, guard := _ }) (v := ?_) rfl (by kernel_rfl) (by kernel_rfl) (by kernel_rfl) (fun _ _ _ h => h) (Or.inl ⟨by rfl, ?_⟩) (by assumption) ?_
  rotate_left 1
  · intro u hSw; obtain s1 := hSw; go_simp; try with_reducible rfl
  try simp only [Act.put, List.setIfInBounds_toArray, List.set_cons_zero, List.set_cons_succ]
  refine wpAnyH_ready (rs := [9]) (by kernel_rfl) (by simp) ?_
  refine AllReadyH.cons (o := { dst := none, op := _, type := _, pos := _, after := _, guard := _ }) rfl (fun K hK => ?_) AllReadyH.nil
  obtain s1 := hHeld
  go_simp
  go_wp2_with fail
  refine hK.out _ _ (((World.cell?_setCell_other _ ⟨ob, 39, none⟩ ⟨X, 0, none⟩ _ (by intro e; injection e; omega)).trans q1)) (fun hHeld => ?_)
  clear hK K
  try simp only [Act.put, List.setIfInBounds_toArray, List.set_cons_zero, List.set_cons_succ]
  refine wpAnyH_done (by kernel_rfl) ?_ _
  refine NoPanic.normal ?_
  have c3 : (w2.setCell ⟨ob, 39, none⟩ (.slice va vn vc)).cell? ⟨ob, 39, none⟩ = some (.slice va vn vc) := World.cell?_setCell_same _ _ _ q2
  go_wp2
  go_ret
  exact ⟨w2, _, rfl, H2.out, rfl⟩

theorem own_any (h : Lm w K lb d g gt tc sv T N m F s) (ho : Ob w B ob lb cv o) (hKB : ∀ j, K j → ¬ B j) (hl : o.cs.length ≤ 1000000) :
    Calls Tryd.prog 59 #[.pointer (some ⟨ob, 0, none⟩)] w fun e w' => ∃ cv', e = .returned cv' ∧ Lm w' K lb d g gt tc sv T N m F s ∧ Ob w' B ob lb cv' (o.owned s) ∧ Fr B w w' := by
  obtain ⟨w1, hw1⟩ : ∃ y, y = w.alloc (.cells #[.pointer (some ⟨ob, 0, none⟩)] 35) := ⟨_, rfl⟩
  have hB : Below w.heap.size w w1 := by rw [hw1]; exact (Below.refl _ w).alloc (Nat.le_refl _) _
  have hblk : w1.heap[w.heap.size]? = some (.cells #[.pointer (some ⟨ob, 0, none⟩)] 35 (0, 0)) := by rw [hw1]; exact heap_alloc_new _ _
  have hsz : w1.heap.size = w.heap.size + 1 := by rw [hw1]; simp
  have hFd : Fr (fun _ => False) w w1.drew := (Fr.below (F := fun _ => False) hB).drew
  have h1 := h.keep hFd (fun _ _ e => e) (fun e => e)
  have o1 := ho.keep hFd (fun _ _ e => e)
  have hcl : ∀ c, cv.ownBlock = some c → c < w.heap.size ∧ B c := fun c e => ⟨ho.kl c (ho.kk c (.inr e)), ho.kk c (.inr e)⟩
  have hspl : ∀ c, sv.ownBlock = some c → K c := fun c e => h.kk c (by simp [e])
  have hlbK : K lb := h.kk lb (by simp)
  -- the closure's answer in whatever world that has all but the row as it was
  have hpred : ∀ (W : World) (x : Int), Fr (fun j => cv.ownBlock = some j) w1.drew W → FnGives Tryd.prog 80 #[.pointer (some ⟨w.heap.size, 0, none⟩)] #[.int .i64 x] (.bool (!(s.sp.map fun c : Nat => (c : Int)).contains x)) W := fun W x hF => by
    refine own_gives (ob := ob) (lb := lb) x ?_ ?_ ?_ (hrow_fr h1.sp hF (fun j e q => hKB j (hspl j e) (hcl j q).2))
    · have hb2 : W.heap[w.heap.size]? = some (.cells #[.pointer (some ⟨ob, 0, none⟩)] 35 (0, 0)) := (hF.block w.heap.size (by show w.heap.size < w1.heap.size; omega) (fun e => by have := (hcl _ e).1; omega)).trans hblk
      rw [Go.Joins.cell_of_block hb2]; rfl
    · exact (o1.om.fr hF (fun e => ho.ne e)).cells.1
    · exact (h1.lk.same (hF.block lb h1.lk.lt (fun e => hKB lb hlbK (hcl lb e).2))).cells.2.2
  have hdel := del_gen o1.row hl (fun x => !(s.sp.map fun c : Nat => (c : Int)).contains x) _ _ eg_own (fun W x hb => hpred W x (Fr.below hb)) (fun blk size hblk2 n os dk x _ => hpred _ x (fr_sort.mono (fun j _ e => by rw [e]; exact hblk2)))
  refine (own_raw (w := w) (Q := fun u v' => Hr u 0 v' (o.owned s).cs ∧ v'.ownBlock = cv.ownBlock ∧ Fr (fun j => cv.ownBlock = some j) w1.drew u) w.heap.size rfl w1 hw1 ho.om.lt (by rw [Go.Joins.cell_of_block hblk]; rfl) ho.om.cells.2.2.2.2.2.2.1 (fun u v hu => ?_) (hdel.mono ?_)).mono ?_
  · obtain ⟨u1, u2, u3⟩ := hu
    have hb2 : u.heap[w.heap.size]? = some (.cells #[.pointer (some ⟨ob, 0, none⟩)] 35 (0, 0)) := (u3.block w.heap.size (by show w.heap.size < w1.heap.size; omega) (fun e => by have := (hcl _ e).1; omega)).trans hblk
    have o2 := o1.om.fr u3 (fun e => ho.ne e)
    obtain ⟨fa, fc, hfe⟩ := u1.form
    exact ⟨by rw [Go.Joins.cell_of_block hb2]; rfl, o2.cells.2.2.2.2.2.2.1, o2.free 39, fa, _, fc, hfe⟩
  · rintro e w' ⟨v', rfl, q1, q2, q3⟩
    refine ⟨v', rfl, ?_, q2, q3⟩
    have ee : (o.owned s).cs = o.cs.filter fun x : Nat => !!(s.sp.map fun c : Nat => (c : Int)).contains (x : Int) := by
      unfold Opm.owned
      simp only [contains_cast, Bool.not_not]
    rw [ee]; exact q1
  · rintro e w' ⟨u, v', rfl, ⟨q1, q2, q3⟩, rfl⟩
    have o2 := o1.om.fr q3 (fun e => ho.ne e)
    have hF2 : Fr (fun j => j = ob) u (u.setCell ⟨ob, 39, none⟩ v') := Fr.setCell (p := ⟨ob, 39, none⟩) (Fr.refl (fun j => j = ob) u) (.inl rfl) _
    have hF3 : Fr B w1.drew (u.setCell ⟨ob, 39, none⟩ v') := (q3.mono (G := B) (fun j _ e => (hcl j e).2)).trans hF2 (fun j e => .inl (ho.kk j (.inl e)))
    have hF4 : Fr B w (u.setCell ⟨ob, 39, none⟩ v') := (hFd.mono (G := B) (fun _ _ e => e.elim)).trans hF3 (fun j e => .inl e)
    refine ⟨v', rfl, h.keep hF4 hKB ho.b0, ⟨o2.setCv v' _, hrow_fr q1 hF2 (fun j e q => ho.ne (by rw [← q2, e, q])), ho.b0, fun j hj => ?_, fun j hj => Nat.lt_of_lt_of_le (ho.kl j hj) hF4.size⟩, hF4⟩
    rcases hj with e | e
    · exact ho.kk j (.inl e)
    · exact ho.kk j (.inr (by rw [← q2]; exact e))

/-- The list with these cells no more spare. -/
def Sl.less (s : Sl) (us : List Nat) : Sl := ⟨s.tw, s.sp.filter fun c => !us.contains c⟩
set_option maxRecDepth 100000 in
set_option maxHeartbeats 4000000 in
theorem noMore_any (h : Lm w K lb d g gt tc sv T N m F s) {uv : Value} {us : List Nat} (hu : Hr w 0 uv us) (huK : ∀ j, uv.ownBlock = some j → ¬ K j) (hl : s.sp.length ≤ 1000000) :
    Calls Tryd.prog 63 #[.pointer (some ⟨lb, 0, none⟩), uv] w fun e w' => e = .returned (.tuple #[]) ∧ ∃ sv', Lm w' K lb d g gt tc sv' T N m F (s.less us) ∧ Fr K w w' := by
  obtain ⟨ua, uc, hue⟩ := hu.form
  subst hue
  obtain ⟨uv, huv⟩ : ∃ y, y = Value.slice ua us.length uc := ⟨_, rfl⟩
  rw [← huv] at hu huK ⊢
  obtain ⟨w1, hw1⟩ : ∃ y, y = w.alloc (.cells #[uv] 47) := ⟨_, rfl⟩
  have hB : Below w.heap.size w w1 := by rw [hw1]; exact (Below.refl _ w).alloc (Nat.le_refl _) _
  have hblk : w1.heap[w.heap.size]? = some (.cells #[uv] 47 (0, 0)) := by rw [hw1]; exact heap_alloc_new _ _
  have hsz : w1.heap.size = w.heap.size + 1 := by rw [hw1]; simp
  have h1 := h.below hB
  have hFb : Fr (fun _ => False) w w1 := Fr.below (F := fun _ => False) hB
  have hu1 := hrow_fr hu hFb (fun _ _ e => e)
  have hspl : ∀ c, sv.ownBlock = some c → K c ∧ c < w.heap.size := fun c e => ⟨h.kk c (by simp [e]), h.kl c (h.kk c (by simp [e]))⟩
  have hpred : ∀ (W : World) (x : Int), Fr (fun j => sv.ownBlock = some j) w1 W → FnGives Tryd.prog 84 #[.pointer (some ⟨w.heap.size, 0, none⟩)] #[.int .i64 x] (.bool ((us.map fun c : Nat => (c : Int)).contains x)) W := fun W x hF => by
    refine more_gives (v := uv) x ?_ (hrow_fr hu1 hF (fun j e q => huK j e (hspl j q).1))
    have hb2 : W.heap[w.heap.size]? = some (.cells #[uv] 47 (0, 0)) := (hF.block w.heap.size (by omega) (fun e => by have := (hspl _ e).2; omega)).trans hblk
    rw [Go.Joins.cell_of_block hb2]; rfl
  have hdel := del_gen h1.sp hl (fun x => (us.map fun c : Nat => (c : Int)).contains x) _ _ eg_more (fun W x hb => hpred W x (Fr.below hb)) (fun blk size hblk2 n os dk x _ => hpred _ x (fr_sort.mono (fun j _ e => by rw [e]; exact hblk2)))
  have HD := hide2 hdel
  have H1 := hide2 h1
  have H := hide2 h
  have HFB := hide2 hFb
  have HSP := hide2 hspl
  have hmf := made_func
  obtain ⟨c0, c1, c2⟩ := h.lk.cells
  have hlt := h.lk.lt
  clear hdel h1 h hpred hFb hu1 hspl hblk hu huK
  subst hw1
  subst huv
  go_enter Tryd.func63, Tryd.ntmps63
  go_wp2_with fail
  refine HD.out.mono ?_
  rintro e w2 ⟨v', rfl, q1, q2, q3⟩
  obtain ⟨fa, fn, fc, hfe⟩ : ∃ a n c, v' = Value.slice a n c := by obtain ⟨a, c, e⟩ := q1.form; exact ⟨a, _, c, e⟩
  subst hfe
  have l2 := H1.out.lk.same (q3.block lb H1.out.lk.lt (fun e => (H1.out.ne.2 lb e).1 rfl))
  have f2 := l2.free 2
  have d2 := l2.cells.2.2
  have Q1 := hide2 q1
  have Q2 := hide2 q2
  have Q3 := hide2 q3
  have L2 := hide2 l2
  have hlt2 := l2.lt
  clear q1 q2 q3 l2 HD
  go_wp2
  go_end0
  have hF2 : Fr (fun j => j = lb) w2 (w2.setCell ⟨lb, 2, none⟩ (.slice fa fn fc)) := Fr.setCell (p := ⟨lb, 2, none⟩) (Fr.refl (fun j => j = lb) w2) (.inl rfl) _
  have hF3 := (Q3.out.mono (G := fun j => j = lb ∨ sv.ownBlock = some j) (fun j _ e => .inr e)).trans hF2 (fun j e => .inl (.inl e))
  obtain ⟨⟨n1, n2, n3, n4, n5, n6⟩, n7⟩ := H.out.ne
  have hk := H.out.kk
  have hF4 : Fr K w (w2.setCell ⟨lb, 2, none⟩ (.slice fa fn fc)) := (HFB.out.mono (G := K) (fun _ _ e => e.elim)).trans hF3 (fun j e => .inl (by rcases e with e | e; exact hk j (by simp [e]); exact (HSP.out j e).1))
  have q : ∀ j, j < w.heap.size → j ≠ lb → sv.ownBlock ≠ some j → (w2.setCell ⟨lb, 2, none⟩ (.slice fa fn fc)).heap[j]? = w.heap[j]? := fun j hj a b => (hF3.block j (by rw [hsz]; omega) (by rintro (e | e); exact a e; exact b e)).trans (hB.block j hj)
  refine ⟨rfl, _, ⟨H.out.aw.same (q d (H.out.kl d (hk d (by simp))) (Ne.symm n1) (fun e => (n7 d e).2.1 rfl)) (q g (H.out.kl g (hk g (by simp))) (Ne.symm n2) (fun e => (n7 g e).2.2.1 rfl)), L2.out.setS _, ?_, ?_, H.out.tab.fr hF4 H.out.k0, H.out.k0, ?_, fun j hj => Nat.lt_of_lt_of_le (H.out.kl j hj) hF4.size⟩, hF4⟩
  · exact hrow_fr (hrow_fr H.out.tw HFB.out (fun _ _ e => e)) hF3 (fun j e q => by cases e; rcases q with q | q; exact n3 q.symm; exact (n7 gt q).2.2.2 rfl)
  · have ee : (s.less us).sp = s.sp.filter fun x : Nat => !(us.map fun c : Nat => (c : Int)).contains (x : Int) := by
      unfold Sl.less
      simp only [contains_cast]
    rw [ee]
    exact hrow_fr Q1.out hF2 (fun j e q => (n7 lb (by rw [← Q2.out, e, q])).1 rfl)
  · intro j hj
    rcases hj with e | e | e | e | e
    · exact hk j (by simp [e])
    · exact hk j (by simp [e])
    · exact hk j (by simp [e])
    · exact hk j (by simp [e])
    · exact hk j (by rw [Q2.out] at e; simp [e])
end
end Go.Proofs.YtopihgdbfhiejaaDoor
