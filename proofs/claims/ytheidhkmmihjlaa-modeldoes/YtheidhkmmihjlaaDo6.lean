/-
  Mr7: A map's rows, one by one: maps.Values; slices.Collect of it.
-/
import Derived.Test.YtheidhkmmihjlaaDo5
import Derived.RangeFuncNested
import Derived.RangeFuncBound
import Derived.RangeFuncCalls
import Derived.RangeFuncLeaves
import Derived.RangeFuncMany
import Derived.RangeFuncKeeps
import Derived.Shelf.Abstract
import Derived.Shelf.RegionOpen
import Derived.OwnWalkIn
import Derived.TacticsInMore
import Derived.LoopNIn
import Derived.LoopIn
import Derived.Sort.MapsRangeIn
import Derived.Sort.KeysCollected
set_option linter.unusedVariables false
set_option linter.unusedSimpArgs false
namespace Go.Proofs.Ytheidhkmmihjlaa.ML
open Go.RowKit Go.Maps Go.Sort Go.Shelf
attribute [local go_sem] Oper.semAt_some

/-- All rows have come: the first one of each key, each once. -/
def AllR (L xs : List Ro) : Prop := (xs.map Ro.k).Nodup ∧ ∀ r, r ∈ xs ↔ fstOf L r.k = some r
def PartR (L xs : List Ro) : Prop := True

section
set_option maxHeartbeats 4000000
set_option maxRecDepth 100000
theorem values_any (mb : Option Nat) (w : World) :
    Calls Try.prog 42 #[.map mb] w fun e w' => e = .returned (.func (.func 65) #[] #[.pointer (some ⟨w.heap.size, 0, none⟩)]) ∧ w' = w.alloc (.cells #[.map mb] 63) := by
  go_enter Try.func42, Try.ntmps42
  go_wp2
  go_ret
  exact ⟨rfl, rfl⟩

theorem values1_in (n : Nat) (hn : 1 ≤ n) (l Bm b nn : Nat) (D0 : DataW Value) (f : Lit → Option Value) (hr : Rdg D0 f) (L : List Ro) (hf : Fst L f) (J Jx : List Ro → World → Prop)
    (hY : ∀ pre x W, J pre W → pre.length < Maps.size D0 → YieldAt Fence.wide (n - 1) Try.prog l #[Ro.val x] W fun e W' =>
      (e = .returned (.bool true) ∧ J (pre ++ [x]) W' ∧ KeepsWalks W W') ∨ (e = .returned (.bool false) ∧ Jx (pre ++ [x]) W'))
    (W : World) (hJ : AbidesFrom W.heap.size J) (hm : W.cell? ⟨Bm, 0, none⟩ = some (.map (some b))) (hown : W.ownsMap Try.prog 9 RVs b nn D0) (h0 : J [] W) :
    CallsIn Fence.wide n Try.prog 65 #[.func (.yield l) #[] #[], .pointer (some ⟨Bm, 0, none⟩)] W fun e W' => (∃ v, e = .returned v) ∧
      ((∃ xs, AllR L xs ∧ J xs W') ∨ (∃ pre, PartR L pre ∧ Jx pre W')) := by
  refine callsIn_of_wp Try.func65 rfl trivial ?_ rfl
  simp only [Try.ntmps65, List.size_toArray, List.length_cons, List.length_nil, Nat.reduceAdd, Nat.reduceSub, Array.replicate_succ, Array.replicate_zero, List.push_toArray, List.append_toArray, List.nil_append, List.cons_append]
  gi_wp2_with (first
    | (gi_at_range; refine wpListIn_range_own _ rfl _ 63 rfl 9 45 strKeyed Try.underlying63 _ b nn _ rfl hown ?_; intro w0 hrg0 hg0 hs0)
    | gi_in)
  go_frame
  have HF := hide2 hf
  have HRD := hide2 hr
  have HOWN := hide2 hown
  clear hf hr hown
  gi_loopw [4] (fun _ wr => ∃ (left : Lit → Bool) (cnt : Nat) (ps : List Ro), wr.ranges Try.prog 9 RVs b W.heap.size nn D0 left cnt ∧ ps.length + cnt ≤ Maps.size D0 ∧ Hid (Collected D0 left (ps.map fun r => r.k.data.toList)) ∧ Hid (∀ p ∈ ps, fstOf L p.k = some p) ∧ J ps wr)
    (fun _ wr => wr.rangeLeft b W.heap.size)
  case atStart =>
    exact ⟨_, _, [], hrg0, by simp, hide2 (Collected.start D0), hide2 (by simp), hJ [] W w0 none h0 hg0 (fun r e => by cases e)⟩
  case round =>
    obtain ⟨left, cnt, ps, hrg, hcs, HC, HV, hJs⟩ := hrel
    gi_wp2_with (first
      | (gi_at_next; refine wpListIn_next_ranges _ rfl _ rfl 9 strKeyed RVs encStr (fun v : Value => v) (fun key kl hk => by obtain ⟨x, hx, _⟩ := Maps.keyOf_str Try.underlying9 hk; exact ⟨x, hx⟩) (fun v y hv => ⟨v, rfl⟩) b W.heap.size nn _ _ _ rfl hrg ?_ ?_)
      | gi_in)
    · intro hc0 hl0
      have HALL : Hid (AllR L ps) := hide2 (by
        refine ⟨?_, fun r => ⟨fun h => HV.out r h, fun h => ?_⟩⟩
        · have h1 := HC.out.1
          have h2 : (ps.map fun r => r.k.data.toList) = (ps.map Ro.k).map fun s => s.data.toList := by rw [List.map_map]; rfl
          rw [h2] at h1
          exact List.Pairwise.of_map (fun s : ByteArray => s.data.toList) (fun a b h e => h (by rw [e])) h1
        · have hff := HF.out.2 r.k
          rw [h] at hff
          have hhas := (HRD.out.yes _ _ hff).1
          have hmem := (HC.out.2 r.k.data.toList).2 ⟨hhas, hl0 _⟩
          obtain ⟨p, hp, hpk⟩ := List.mem_map.1 hmem
          have hkk : p.k = r.k := ByteArray.ext (Array.toList_inj.1 hpk)
          have h3 := HV.out p hp
          rw [hkk, h] at h3
          rw [Option.some.inj h3]
          exact hp)
      gi_wp2
      go_end0
      exact ⟨⟨_, rfl⟩, .inl ⟨ps, HALL.out, hJs⟩⟩
    · intro x c kl yd yp w2 cnt2 hkey hlk hv hat hrg2 hlt hg2 hs2 hen
      obtain ⟨x', ex, rfl, _⟩ := Maps.keyOf_str Try.underlying9 hkey
      obtain rfl : x = x' := encStr_inj ex
      obtain ⟨rfl, rfl⟩ : yd = .held c ∧ yp = [] := by
        simp only [RVs, Option.some.injEq, Prod.mk.injEq] at hv
        exact ⟨hv.1.symm, hv.2.symm⟩
      have hhas : has D0 (.string x) = true := has_true_of_atKey hat
      obtain ⟨r, hrL, hrk, rfl⟩ : ∃ r, fstOf L r.k = some r ∧ x = r.k.data.toList ∧ c = r.val := by
        cases hfx : f (.string x) with
        | none => rw [HRD.out.no _ hfx] at hhas; cases hhas
        | some v =>
          have h1 := (HRD.out.yes _ _ hfx).2 (.held c)
          rw [hat] at h1
          have h2 : c = v := by injection h1
          obtain ⟨r, hr1, hr2, hr3⟩ := HF.out.1 _ _ hfx
          have h3 := HF.out.2 r.k
          rw [← hr2, hfx] at h3
          cases hq : fstOf L r.k with
          | none => rw [hq] at h3; cases h3
          | some r2 =>
            rw [hq] at h3
            have h4 : v = r2.val := by simpa using h3
            have h5 : r2.k = r.k := by
              have := List.find?_some hq
              simpa using this
            refine ⟨r2, by rw [h5]; exact hq, ?_, by rw [h2, h4]⟩
            rw [h5]
            unfold strLit at hr2
            injection hr2
      subst hrk
      have HC2 : Hid (Collected D0 (fun z => left z && !z.sameKey (.string r.k.data.toList)) ((ps ++ [r]).map fun r => r.k.data.toList)) := hide2 (by simpa using HC.out.step hlk hat)
      have HV2 : Hid (∀ p ∈ ps ++ [r], fstOf L p.k = some p) := hide2 (fun p hp => by
        rcases List.mem_append.1 hp with hp | hp
        · exact HV.out p hp
        · simp at hp; subst hp; exact hrL)
      have hJ2 : J ps w2 := hJ _ wr w2 (some W.heap.size) hJs hg2 (fun r e => by cases e; exact ⟨Nat.le_refl _, hrg.iter_walk⟩)
      obtain ⟨w3, hw3⟩ : ∃ w3, w3 = w2.alloc (.cells #[.string r.k, .string r.v, .int .i64 r.t] 45) := ⟨_, rfl⟩
      have hJ3 : J ps w3 := by rw [hw3]; exact hJ _ w2 _ none hJ2 (World.grownBy_alloc w2 _ none) (fun r e => by cases e)
      have hrg3 : w3.ranges Try.prog 9 RVs b W.heap.size nn D0 (fun z => left z && !z.sameKey (.string r.k.data.toList)) cnt2 := by rw [hw3]; exact hrg2.alloc _
      obtain ⟨fn, tmps, assign, body, hy, hR⟩ := hY ps r w3 hJ3 (by omega)
      have HR := hide2 hR
      have HRG3 := hide2 hrg3
      have HHAT := hide2 hat
      clear hs2 hkey hlk hv hat hrL hhas hR hrg3 hrg2 hg2 hJ2 hJ3 ex
      subst hw3
      dsimp only [Ro.val] at hy
      gi_wp2
      refine HR.out.mono ?_
      rintro e W3 (⟨rfl, hJ3, hk3⟩ | ⟨rfl, hJx3⟩)
      · have hrg4 := HRG3.out.of_walks hk3
        clear hk3
        gi_wp2
        go_roundw
        case rel => exact ⟨_, cnt2, ps ++ [r], hrg4, by simp; omega, HC2, HV2, hJ3⟩
        case measure => rw [hrg4.left_eq, hrg.left_eq]; exact hlt
      · gi_wp2
        refine bodyPost_ret (results_none rfl _ _ _) rfl ?_
        exact ⟨⟨_, rfl⟩, .inr ⟨ps ++ [r], trivial, hJx3⟩⟩

/-- What maps.Values hands back goes through the rows. -/
theorem values_stops (n : Nat) (hn : 1 ≤ n) (Bm b nn : Nat) (D0 : DataW Value) (f : Lit → Option Value) (hr : Rdg D0 f) (L : List Ro) (hf : Fst L f) (w : World) (hBm : Bm < w.heap.size) (hm : w.cell? ⟨Bm, 0, none⟩ = some (.map (some b))) (hown : w.ownsMap Try.prog 9 RVs b nn D0) :
    SeqStopsK Fence.wide n Try.prog 65 #[.pointer (some ⟨Bm, 0, none⟩)] (fun x : Ro => #[Ro.val x]) KeepsWalks (AllR L) (PartR L) (Maps.size D0) w := fun l J Jx W hW hJ _ hY h0 => by
  have hown' : W.ownsMap Try.prog 9 RVs b nn D0 := by
    have hbl := hown.lt
    obtain ⟨es, clock, hb, Ft, hs, hD⟩ := hown
    exact ⟨es, clock, (hW.block b hbl).trans hb, Ft, hs, hD⟩
  exact values1_in n hn l Bm b nn D0 f hr L hf J Jx hY W hJ ((hW.cell (p := ⟨Bm, 0, none⟩) hBm).trans hm) hown' h0

theorem ownsRow_putObj {w : World} {base : Nat} {e : TypeId} {size : Nat} {v : Value} {n : Nat} {xs : List Value} (h : w.ownsRow base e size v n xs) {D : Nat} {o : Obj} (o' : Obj) (hD : w.heap[D]? = some o) (ho : o.isCells = false) : (w.putObj D o').ownsRow base e size v n xs := by
  refine ⟨h.1, ?_⟩
  rcases h.2 with q | ⟨g, cap, cur, e1, hB, hh, r⟩
  · exact .inl q
  · refine .inr ⟨g, cap, cur, e1, hB, ?_, r⟩
    have hne : g ≠ D := fun e => by
      rw [e, hD] at hh
      cases hh
      cases ho
    exact (World.putObj_heap_other hne).trans hh
/-- A row in a block of its own. -/
def Rbx (W : World) (X : Nat) (x : Ro) : Prop := W.heap[X]? = some (.cells #[.string x.k, .string x.v, .int .i64 x.t] 45 (0, 0))

theorem appendSeq_in (n : Nat) (hn : 2 ≤ n) (Bm b nn : Nat) (D0 : DataW Value) (f : Lit → Option Value) (hr : Rdg D0 f) (L : List Ro) (hf : Fst L f) (w : World) (hBm : Bm < w.heap.size) (hm : w.cell? ⟨Bm, 0, none⟩ = some (.map (some b))) (hown : w.ownsMap Try.prog 9 RVs b nn D0) (hsz : Maps.size D0 ≤ 3518437208883) :
    CallsIn Fence.wide n Try.prog 71 #[.slice none 0 0, .func (.func 65) #[] #[.pointer (some ⟨Bm, 0, none⟩)]] w fun e w' => ∃ v xs, e = .returned v ∧ AllR L xs ∧ Rr w' w.heap.size v xs ∧ Below w.heap.size w w' := by
  obtain ⟨i0, hi, hz0, hz1, hz2⟩ := info_parts infoRo
  refine callsIn_of_wp_marks Try.func71 rfl trivial ?_ rfl
  simp only [Try.ntmps71, List.size_toArray, List.length_cons, List.length_nil, Nat.reduceAdd, Nat.reduceSub, Array.replicate_succ, Array.replicate_zero, List.push_toArray, List.append_toArray, List.nil_append, List.cons_append]
  gi_wp2
  have bO := Boxed.new w 22 (.slice none 0 0)
  have hB0 : Below w.heap.size w (w.alloc (.cells #[.slice none 0 0] 22)) := below1 w _
  have hown0 : (w.alloc (.cells #[.slice none 0 0] 22)).ownsMap Try.prog 9 RVs b nn D0 := by
    have hbl := hown.lt
    obtain ⟨es, clock, hb, Ft, hs, hD⟩ := hown
    exact ⟨es, clock, (hB0.block b hbl).trans hb, Ft, hs, hD⟩
  refine wpIn_rangeFunc_ownH (n := n) rfl (by omega) (gf := 65) (lb := #[.pointer (some ⟨Bm, 0, none⟩)]) rfl trivial (enters_of Try.func65 (by kernel_rfl) rfl)
    (values_stops (n - 1) (by omega) Bm b nn D0 f hr L hf _ (by simp; omega) ((hB0.cell (p := ⟨Bm, 0, none⟩) hBm).trans hm) hown0) KeepsWalks.trans walksK_b (Below.refl _ _) (fun _ => rfl)
    (fun pre W => (∃ v, Boxed W w.heap.size 22 v ∧ W.ownsRow w.heap.size 45 3 v pre.length (rc pre) ∧ True) ∧ Below w.heap.size w W)
    (fun _ _ _ => False)
    (OwnFrom.and (Own.from (holdsRow_own w.heap.size w.heap.size 22 45 3 (fun (pre : List Ro) => pre.length) (fun (pre : List Ro) => rc pre) (fun (pre : List Ro) v => True)) _) (ownFrom_below (Nat.le_refl _) (by simp)))
    (fun _ _ _ _ _ hs _ _ => hs)
    ⟨⟨_, bO, World.ownsRow_nil _ _ _ _, trivial⟩, hB0⟩
    (fun x a' W => ∃ X, Rbx W X x ∧ a' = { tmps := #[.slice none 0 0, .func (.func 65) #[] #[.pointer (some ⟨Bm, 0, none⟩)], .pointer (some ⟨w.heap.size, 0, none⟩), undef, .slice none 0 0, .pointer (some ⟨X, 0, none⟩), .func (.func 65) #[] #[.pointer (some ⟨Bm, 0, none⟩)], x.val, undef, undef, undef, undef, undef], defers := [] })
    ?own ?assign ?body ?done ?stop
  case own =>
    rintro x a' _ X Y row ⟨X', h1, h2⟩ hg hrow
    refine ⟨X', ?_, h2⟩
    have hlt : X' < X.heap.size := (Array.getElem?_eq_some_iff.1 h1).1
    exact (hg.block X' hlt (fun e => by
      obtain ⟨_, o, ho, hc⟩ := hrow X' e.symm
      rw [show X.heap[X']? = _ from h1] at ho
      cases ho
      cases hc)).trans h1
  case assign =>
    rintro l pre x W K ⟨⟨v, hv, hrow, _⟩, hB⟩ hK
    gi_wp2
    exact hK _ _ ((KeepsOthers.alloc W _).from _) (KeepsWalks.alloc W _) ⟨⟨v, hv.alloc _, hrow.alloc _, trivial⟩, hB.alloc hB.size _⟩ ⟨W.heap.size, heap_alloc_new _ _, rfl⟩
  case body =>
    rintro l pre x a' W hl hloop ⟨⟨v, hv, hrow, _⟩, hB⟩ ⟨X, hX, rfl⟩ hlt
    have hc := hv.cell
    have q0 : W.cell? ⟨X, 0, none⟩ = some (.string x.k) := by rw [Go.Joins.cell_of_block hX]; rfl
    have q1 : W.cell? ⟨X, 1, none⟩ = some (.string x.v) := by rw [Go.Joins.cell_of_block hX]; rfl
    have q2 : W.cell? ⟨X, 2, none⟩ = some (.int .i64 x.t) := by rw [Go.Joins.cell_of_block hX]; rfl
    gi_wp2_with (gi_at_builtin; refine wpListIn_append_own _ rfl _ _ 22 rfl w.heap.size 45 i0 (.agg #[.string .empty, .string .empty, .int .i64 0]) 3 40 Try.underlying22 hi hz0 hz1 hz2 rfl (by decide) _ _ _ rfl (hrow.alloc _) ⟨W.heap.size, 0, none⟩ 1 1 [.string x.k, .string x.v, .int .i64 x.t] rfl rfl (cell_three_new _ _ _ _ _) (by intro u hu; simp at hu; rcases hu with rfl | rfl | rfl <;> rfl) (by unfold maxLen; omega) (by omega) (by have := hB.size; simp; omega) ?_; intro v' w1 hown' hgrow _; obtain ⟨g', cap', rfl⟩ := ownsRow_succ hown'; obtain ⟨hv1, hv2, hr2, hk2, hb2⟩ := hv.appended (by decide) hrow hB.size (Nat.le_refl _) hown' hgrow; have hc1 := hv1.cell; have hf1 := hv1.frozen)
    exact ⟨hk2.from _, hk2.walks, ⟨_, hv2, by rw [List.length_append, rc_append]; exact hr2, trivial⟩, hB.trans hb2⟩
  case done =>
    rintro D ys W hD hS ⟨⟨v, hv, hrow, _⟩, hB⟩ hK
    have hc := hv.cell
    gi_wp2
    refine ⟨by simp, .inl ⟨_, _, rfl, run_takeDeferred hK, ?_⟩⟩
    exact ⟨_, results_tmp rfl _ _ _, v, ys, rfl, hS, ownsRow_putObj hrow _ hK rfl, hB.trans (belowK_b (w := w) (Nat.le_refl _) W D _ _ (by simp at hD; omega) hK rfl rfl)⟩
  case stop =>
    rintro D c pre W _ _ h _
    exact h.elim

/-- All rows of a map, in new memory. -/
theorem collect_any (Bm b nn : Nat) {f : Lit → Option Value} {L : List Ro} (hf : Fst L f) (w : World) (hBm : Bm < w.heap.size) (hm : w.cell? ⟨Bm, 0, none⟩ = some (.map (some b))) (hM : Mg 9 w b f nn) (hsz : nn ≤ 3518437208883) :
    Calls Try.prog 63 #[.func (.func 65) #[] #[.pointer (some ⟨Bm, 0, none⟩)]] w fun e w' => ∃ v xs, e = .returned v ∧ AllR L xs ∧ Rr w' w.heap.size v xs ∧ Below w.heap.size w w' := by
  obtain ⟨D, hown, hr⟩ := hM
  have hs2 : Maps.size D ≤ 3518437208883 := Nat.le_trans hown.size_le hsz
  have HA := hide2 (callsIn_wide.1 (appendSeq_in 3 (by omega) Bm b nn D f hr L hf w hBm hm hown hs2))
  clear hown hm hr
  go_enter Try.func63, Try.ntmps63
  go_wp2_with fail
  refine HA.out.mono ?_
  rintro e w1 ⟨v, xs, rfl, hx, hr, hb⟩
  have HR := hide2 hr
  obtain ⟨aq, cq, ev, _⟩ := hr.seq
  subst ev
  clear hr
  go_wp2
  go_ret
  exact ⟨_, xs, rfl, hx, HR.out, hb⟩
end
end Go.Proofs.Ytheidhkmmihjlaa.ML
