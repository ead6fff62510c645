/-
  Run where it may not be; lists of numbers held against one another; shown.
-/
import Derived.Test.YtnpmldlnckbppaaDoorS6
set_option linter.unusedVariables false
set_option linter.unusedSimpArgs false
namespace Go.Proofs.YtnpmldlnckbppaaDoor
open Go.RowKit

set_option maxRecDepth 100000 in
set_option maxHeartbeats 1000000 in
theorem Run_wrong (w : World) (size : Int) (pao : Option Addr) (plen pcap : Nat) (Ps : List PrR) (x : Value) (hPs : Progs w pao plen pcap Ps) (hr : right size Ps = false) :
    Calls Tryd.prog 10 #[.int .i64 size, .slice pao plen pcap, x] w fun e w' => e = .returned (.tuple #[nilS, nilS, .int .i64 0, .int .i64 70]) ∧ Below w.heap.size w w' := by
  have HM := hide2 (mayRun_any w size pao plen pcap Ps hPs)
  rw [hr] at HM
  clear hPs
  go_enter Tryd.func10, Tryd.ntmps10
  go_wp2_with fail
  refine HM.out.mono ?_
  rintro e w1 ⟨rfl, hB1⟩
  go_wp2
  refine bodyPost_ret (v := .tuple #[nilS, nilS, .int .i64 0, .int .i64 70]) (by simp [results, Tryd.results10, go_sem]) rfl ⟨rfl, hB1⟩

/-! ### Numbers held against one another -/
theorem take_succ_eq {α : Type} {xs ys : List α} {k : Nat} {x y : α} (hx : xs[k]? = some x) (hy : ys[k]? = some y) (h : xs.take k = ys.take k) : (xs.take (k + 1) = ys.take (k + 1)) ↔ x = y := by
  rw [List.take_add_one, List.take_add_one, hx, hy, h]
  simp

theorem drewN_twice (w : World) (a b : Nat) : (w.drewN a).drewN b = w.drewN (a + b) := by
  simp [World.drewN, Nat.add_assoc]
theorem Seq.drewN {α : Type} {k : Nat} {f : α → List Value} {w : World} {ao : Option Addr} {len cap : Nat} {xs : List α} (h : Seq k f w ao len cap xs) (q : Nat) : Seq k f (w.drewN q) ao len cap xs := h

set_option maxRecDepth 100000 in
set_option maxHeartbeats 2000000 in
theorem words_any (w : World) (ao bo : Option Addr) (al ac bl bc : Nat) (xs ys : List Int) (hx : Ints .u64 w ao al ac xs) (hy : Ints .u64 w bo bl bc ys) :
    Calls Tryd.prog 13 #[.slice ao al ac, .slice bo bl bc] w fun e w' => e = .returned (.bool (decide (xs = ys))) ∧ ∃ q, w' = w.drewN q := by
  have hx1 := hx.1
  have hy1 := hy.1
  have hxc := hx.2.1
  have hxm := hx.2.2.1
  unfold maxLen at hxm
  by_cases hl : al = bl
  · subst hl
    have HX := hide2 hx
    have HY := hide2 hy
    clear hx hy
    go_enter Tryd.func13, Tryd.ntmps13
    go_wp2
    go_loopw [5] (fun i wr => ∃ k : Nat, k ≤ al ∧ i = .int .i64 k ∧ xs.take k = ys.take k ∧ ∃ q, wr = w.drewN q) (fun i _ => al - (intOf i).toNat)
    case atStart => exact ⟨0, by omega, rfl, rfl, 0, rfl⟩
    case round =>
      obtain ⟨k, hk, rfl, he, q, hwr⟩ := hrel
      have HWR := hide2 hwr
      by_cases hkl : k < al
      · obtain ⟨b1, o1, rfl, hb1, hc1⟩ := (show Ints .u64 wr ao al ac xs by rw [hwr]; exact HX.out.drewN q).num (by omega)
        obtain ⟨b2, o2, rfl, hb2, hc2⟩ := (show Ints .u64 wr bo al bc ys by rw [hwr]; exact HY.out.drewN q).num (by omega)
        have q1 := hc1 k hkl
        have q2 := hc2 k hkl
        have ex : xs[k]? = some (xs.getD k 0) := by simp [List.getD, List.getElem?_eq_getElem (show k < xs.length by omega)]
        have ey : ys[k]? = some (ys.getD k 0) := by simp [List.getD, List.getElem?_eq_getElem (show k < ys.length by omega)]
        have ET := hide2 (take_succ_eq ex ey he)
        have hne : xs.getD k 0 ≠ ys.getD k 0 → ¬ xs = ys := fun h e => h (by rw [e])
        have HNE := hide2 hne
        generalize xs.getD k 0 = x at *
        generalize ys.getD k 0 = y at *
        have hkl2 : (k : Int) < (al : Int) := by omega
        clear hc1 hc2 ex ey he hne hwr
        by_cases hxy : x = y
        · have t1 : (x != y) = false := by simp [hxy]
          subst hxy
          go_wp2
          go_quiet (fail)
          go_wp2
          go_roundw
          case rel => exact ⟨k + 1, by omega, by go_num, ET.out.2 (by trivial), _, by rw [HWR.out]; exact drewN_twice _ _ _⟩
          case measure => simp [intOf]; omega
        · have t1 : (x != y) = true := by simp [hxy]
          go_wp2
          go_quiet (fail)
          go_wp2
          go_ret
          exact ⟨ret_bool (by simp [HNE.out hxy]), _, by rw [HWR.out]; exact drewN_twice _ _ _⟩
      · obtain rfl : al = k := by omega
        have e : xs = ys := by
          rw [← hx1, List.take_length, hx1, ← hy1, List.take_length] at he
          exact he
        go_wp2
        go_ret
        exact ⟨ret_bool (by simp [e]), q, rfl⟩
  · have t1 : ((al : Int) != (bl : Int)) = true := by simp; omega
    have t2 : (al != bl) = true := by simp; omega
    clear hx hy
    go_enter Tryd.func13, Tryd.ntmps13
    go_wp2
    go_ret
    have : ¬ xs = ys := fun e => hl (by rw [← hx1, ← hy1, e])
    exact ⟨ret_bool (by simp [this]), 0, rfl⟩

/-- A row of numbers, as it lies. -/
structure NumR where
  ao : Option Addr
  len : Nat
  cap : Nat
  xs : List Int
def NumR.cells (p : NumR) : List Value := [.slice p.ao p.len p.cap]
structure Lists (w : World) (ao : Option Addr) (len cap : Nat) (L : List NumR) : Prop where
  out : Seq 1 NumR.cells w ao len cap L
  ins : ∀ p ∈ L, Ints .u64 w p.ao p.len p.cap p.xs
theorem Lists.keep {w w' : World} {ao : Option Addr} {len cap : Nat} {L : List NumR} (h : Lists w ao len cap L) (hb : Below w.heap.size w w') : Lists w' ao len cap L :=
  ⟨h.out.keep hb, fun p hp => (h.ins p hp).keep hb⟩
theorem Lists.at {w : World} {ao : Option Addr} {len cap : Nat} {L : List NumR} (h : Lists w ao len cap L) {i : Nat} {p : NumR} (hp : L[i]? = some p) : ∃ b off, ao = some ⟨b, off, none⟩ ∧ b < w.heap.size ∧ w.cell? ⟨b, off + i, none⟩ = some (.slice p.ao p.len p.cap) := by
  have hi : i < L.length := (List.getElem?_eq_some_iff.1 hp).1
  obtain ⟨h1, h2, h3, h4⟩ := h.out
  obtain ⟨b, off, e, hb, hc⟩ := h4 (by omega)
  refine ⟨b, off, e, hb, ?_⟩
  have := hc i p hp 0 _ rfl
  simpa using this

set_option maxRecDepth 100000 in
set_option maxHeartbeats 2000000 in
theorem lists_any (w : World) (ao bo : Option Addr) (al ac bl bc : Nat) (L M : List NumR) (hx : Lists w ao al ac L) (hy : Lists w bo bl bc M) :
    Calls Tryd.prog 12 #[.slice ao al ac, .slice bo bl bc] w fun e w' => e = .returned (.bool (decide (L.map NumR.xs = M.map NumR.xs))) ∧ ∃ q, w' = w.drewN q := by
  have hx1 := hx.out.1
  have hy1 := hy.out.1
  have hxc := hx.out.2.1
  have hxm := hx.out.2.2.1
  unfold maxLen at hxm
  by_cases hl : al = bl
  · subst hl
    have HX := hide2 hx
    have HY := hide2 hy
    clear hx hy
    go_enter Tryd.func12, Tryd.ntmps12
    go_wp2
    go_loopw [5] (fun i wr => ∃ k : Nat, k ≤ al ∧ i = .int .i64 k ∧ (L.map NumR.xs).take k = (M.map NumR.xs).take k ∧ ∃ q, wr = w.drewN q) (fun i _ => al - (intOf i).toNat)
    case atStart => exact ⟨0, by omega, rfl, rfl, 0, rfl⟩
    case round =>
      obtain ⟨k, hk, rfl, he, q, hwr⟩ := hrel
      have HWR := hide2 hwr
      by_cases hkl : k < al
      · obtain ⟨p, hp⟩ := some_at hx1 hkl
        obtain ⟨r, hr⟩ := some_at hy1 hkl
        obtain ⟨b1, o1, rfl, hb1, c1⟩ := HX.out.at hp
        obtain ⟨b2, o2, rfl, hb2, c2⟩ := HY.out.at hr
        have q1 : wr.cell? ⟨b1, o1 + k, none⟩ = some (.slice p.ao p.len p.cap) := by rw [hwr]; exact c1
        have q2 : wr.cell? ⟨b2, o2 + k, none⟩ = some (.slice r.ao r.len r.cap) := by rw [hwr]; exact c2
        have hw : ∀ q, Calls Tryd.prog 13 #[.slice p.ao p.len p.cap, .slice r.ao r.len r.cap] (wr.drewN q) fun e w' => e = .returned (.bool (decide (p.xs = r.xs))) ∧ ∃ q', w' = (wr.drewN q).drewN q' := fun q => by
          rw [hwr]
          exact words_any _ _ _ _ _ _ _ p.xs r.xs (HX.out.ins p (List.mem_of_getElem? hp)) (HY.out.ins r (List.mem_of_getElem? hr))
        have ex : (L.map NumR.xs)[k]? = some p.xs := by simp [hp]
        have ey : (M.map NumR.xs)[k]? = some r.xs := by simp [hr]
        have ET := hide2 (take_succ_eq ex ey he)
        have hne : p.xs ≠ r.xs → ¬ L.map NumR.xs = M.map NumR.xs := fun h e => h (by rw [e] at ex; exact Option.some.inj (ex.symm.trans ey))
        have HNE := hide2 hne
        have hkl2 : (k : Int) < (al : Int) := by omega
        clear c1 c2 ex ey he hne hwr
        by_cases hxy : p.xs = r.xs
        · have t1 : decide (p.xs = r.xs) = true := by simp [hxy]
          rw [t1] at hw
          go_wp2
          go_quiet ((go_at_call 13; refine Calls.quiet_of (hw _)))
          go_wp2
          go_roundw
          case rel => exact ⟨k + 1, by omega, by go_num, ET.out.2 hxy, _, by rw [HWR.out]; exact drewN_twice _ _ _⟩
          case measure => simp [intOf]; omega
        · have t1 : decide (p.xs = r.xs) = false := by simp [hxy]
          rw [t1] at hw
          go_wp2
          go_quiet ((go_at_call 13; refine Calls.quiet_of (hw _)))
          go_wp2
          go_ret
          exact ⟨ret_bool (by simp [HNE.out hxy]), _, by rw [HWR.out]; exact drewN_twice _ _ _⟩
      · obtain rfl : al = k := by omega
        have e : L.map NumR.xs = M.map NumR.xs := by
          have l1 : (L.map NumR.xs).length = al := by simp [hx1]
          have l2 : (M.map NumR.xs).length = al := by simp [hy1]
          rw [List.take_of_length_le (by omega), List.take_of_length_le (by omega)] at he
          exact he
        have HE := hide2 e
        clear e he
        go_wp2
        go_ret
        exact ⟨ret_bool (by simp [HE.out]), q, rfl⟩
  · have t1 : ((al : Int) != (bl : Int)) = true := by simp; omega
    have t2 : (al != bl) = true := by simp; omega
    clear hx hy
    go_enter Tryd.func12, Tryd.ntmps12
    go_wp2
    go_ret
    have : ¬ L.map NumR.xs = M.map NumR.xs := fun e => hl (by
      have := congrArg List.length e
      simp at this
      omega)
    exact ⟨ret_bool (by simp [this]), 0, rfl⟩

/-! ### From what is owned to what is read -/
theorem row_ints {w : World} {B : Nat} {v : Value} {xs : List Int} (h : w.ownsRow B 32 1 v xs.length (xs.map (Value.int .u64))) : ∃ ao cap, v = .slice ao xs.length cap ∧ Ints .u64 w ao xs.length cap xs := by
  rcases h.2 with ⟨rfl, h0⟩ | ⟨g, cap, cur, rfl, hg, hh, r1, r2, r3, r4⟩
  · refine ⟨none, 0, by rw [h0], rfl, by omega, Nat.zero_le _, fun hp => absurd hp (by omega)⟩
  · refine ⟨_, cap, rfl, rfl, r1, r2, fun hp => ⟨g, 0, rfl, (Array.getElem?_eq_some_iff.1 hh).1, fun i x hi j u hu => ?_⟩⟩
    have hil : i < xs.length := (List.getElem?_eq_some_iff.1 hi).1
    have hown : w.ownsRow B 32 1 (.slice (some ⟨g, 0, none⟩) xs.length cap) xs.length (xs.map (Value.int .u64)) := h
    have := hown.cellAt i (by omega)
    rcases j with _ | j
    · cases hu
      rw [show 0 + i * 1 + 0 = i by omega, this]
      simp [hi]
    · cases hu
theorem Nb.ints {w : World} {g : Nat} {N : List Int} (h : Nb w g N) (hN : N.length ≤ 65536) : Ints .u64 w (some ⟨g, 0, none⟩) N.length N.length N := by
  refine ⟨rfl, Nat.le_refl _, by unfold maxLen; omega, fun hp => ⟨g, 0, rfl, h.lt, fun i x hi j u hu => ?_⟩⟩
  have hil : i < N.length := (List.getElem?_eq_some_iff.1 hi).1
  have := h.cell i hil
  rcases j with _ | j
  · cases hu
    rw [show 0 + i * 1 + 0 = i by omega, this]
    simp [List.getD, hi]
  · cases hu

def numR (v : Value) (xs : List Int) : NumR := match v with
  | .slice ao l c => ⟨ao, l, c, xs⟩
  | _ => ⟨none, 0, 0, xs⟩
def outR (us : List Value) (A : List (List Int)) : List NumR := (List.range A.length).map fun i => numR (us.getD i nilS) (A.getD i [])
theorem outR_xs (us : List Value) (A : List (List Int)) : (outR us A).map NumR.xs = A := by
  unfold outR
  rw [List.map_map]
  apply List.ext_getElem?
  intro i
  rcases Nat.lt_or_ge i A.length with h | h
  · have e : A.getD i [] = A[i] := by simp [List.getD, List.getElem?_eq_getElem h]
    have e2 : ∀ v xs, (numR v xs).xs = xs := fun v xs => by unfold numR; split <;> rfl
    simp [h, List.getElem?_range h, e2]
  · simp [h, List.getElem?_eq_none]
theorem Outs.lists {w : World} {B r : Nat} {A : List (List Int)} {us : List Value} (h : Outs w B r A us) (hA : A.length ≤ 16) : Lists w (some ⟨r, 0, none⟩) A.length A.length (outR us A) := by
  refine ⟨⟨by simp [outR], Nat.le_refl _, by unfold maxLen; omega, fun hp => ⟨r, 0, rfl, (Array.getElem?_eq_some_iff.1 h.blk).1, fun i x hi j u hu => ?_⟩⟩, fun p hp => ?_⟩
  · have hil : i < A.length := by simpa [outR] using (List.getElem?_eq_some_iff.1 hi).1
    obtain ⟨ao, cap, e, hs⟩ := row_ints (h.row i)
    have ex : x = numR (us.getD i nilS) (A.getD i []) := by
      simp [outR, List.getElem?_range hil] at hi
      exact hi.symm
    rw [e] at ex
    have hiu : i < us.length := by rw [h.len]; exact hil
    have eu : us[i]? = some (.slice ao (A.getD i []).length cap) := by
      rw [← e]
      simp [List.getD, List.getElem?_eq_getElem hiu]
    rcases j with _ | j
    · subst ex
      simp only [NumR.cells, numR, List.getElem?_cons_zero, Option.some.injEq] at hu
      subst hu
      rw [show 0 + i * 1 + 0 = i by omega, Go.Joins.cell_of_block h.blk]
      simpa using eu
    · cases hu
  · unfold outR at hp
    obtain ⟨i, hi, rfl⟩ := List.mem_map.1 hp
    obtain ⟨ao, cap, e, hs⟩ := row_ints (h.row i)
    rw [e]
    exact hs
end Go.Proofs.YtnpmldlnckbppaaDoor
