/-
  Xn9: Sorting rows by their keys: cmp.Compare, byKey, slices.SortFunc, slices.SortedFunc.
-/
import Derived.Test.YtheidhkmmihjlaaDo8
import Derived.Test.YtheidhkmmihjlaaDo14
import Derived.Shelf.SlSortCmp.WholeK
import Derived.Shelf.SlSortCmp.NoneTotal
set_option linter.unusedVariables false
set_option linter.unusedSimpArgs false
namespace Go.Proofs.Ytheidhkmmihjlaa.ML
open Go.RowKit Go.Shelf Go.Sort Go.Lib
attribute [local go_sem] Oper.semAt_some

instance : Inhabited Ro := ⟨⟨.empty, .empty, 0⟩⟩
def cfR (x y : Ro) : Int := if nless x.k y.k then -1 else if nless y.k x.k then 1 else 0
theorem lt_cfR (x y : Ro) : ltOf cfR x y = nless x.k y.k := by
  unfold ltOf cfR
  cases nless x.k y.k with
  | true => rfl
  | false => cases nless y.k x.k <;> rfl
theorem swoR : SWO (ltOf cfR) where
  irrefl x := by rw [lt_cfR]; exact nl_irr _
  trans x y z h1 h2 := by rw [lt_cfR] at *; exact nl_tr h1 h2
  ntrans x y z h1 h2 := by
    rw [lt_cfR] at *
    cases h : nless x.k z.k with
    | false => rfl
    | true =>
      rcases nl_tot y.k x.k with q | q | q
      · rw [nl_tr q h] at h2; cases h2
      · rw [q, h] at h2; cases h2
      · rw [q] at h1; cases h1

section
set_option maxHeartbeats 4000000
set_option maxRecDepth 100000
theorem isNaN_any (a : ByteArray) (w : World) : Calls Try.prog 74 #[.string a] w fun e w' => e = .returned (.bool false) ∧ w' = w := by
  go_enter Try.func74, Try.ntmps74
  go_wp2
  go_ret
  exact ⟨by simp, rfl⟩
theorem compare_any (a b : ByteArray) (w : World) : Calls Try.prog 66 #[.string a, .string b] w fun e w' => e = .returned (.int .i64 (if nless a b then -1 else if nless b a then 1 else 0)) ∧ w' = w := by
  have H := hide2 isNaN_any
  unfold nless
  cases h1 : Op.bytesLess a.toList b.toList with
  | true =>
    go_enter Try.func66, Try.ntmps66
    go_wp2_with fail
    refine (H.out _ _).mono ?_
    rintro e w1 ⟨rfl, rfl⟩
    go_wp2_with fail
    refine (H.out _ _).mono ?_
    rintro e w1 ⟨rfl, rfl⟩
    go_wp2
    go_ret
    exact ⟨rfl, rfl⟩
  | false =>
    cases h2 : Op.bytesLess b.toList a.toList with
    | true =>
      have te : (a.toList == b.toList) = false := by
        cases q : (a.toList == b.toList) with
        | false => rfl
        | true =>
          have e : a.toList = b.toList := by simpa using q
          rw [e, bl_irr] at h2; cases h2
      go_enter Try.func66, Try.ntmps66
      go_wp2_with fail
      refine (H.out _ _).mono ?_
      rintro e w1 ⟨rfl, rfl⟩
      go_wp2_with fail
      refine (H.out _ _).mono ?_
      rintro e w1 ⟨rfl, rfl⟩
      go_wp2
      go_ret
      exact ⟨rfl, rfl⟩
    | false =>
      have te : (a.toList == b.toList) = true := by
        rcases bl_tot a.toList b.toList with q | q | q
        · rw [q] at h1; cases h1
        · simp [q]
        · rw [q] at h2; cases h2
      go_enter Try.func66, Try.ntmps66
      go_wp2_with fail
      refine (H.out _ _).mono ?_
      rintro e w1 ⟨rfl, rfl⟩
      go_wp2_with fail
      refine (H.out _ _).mono ?_
      rintro e w1 ⟨rfl, rfl⟩
      go_wp2
      go_ret
      exact ⟨rfl, rfl⟩
theorem closure_any (x y : Ro) (W : World) : Calls Try.prog 43 #[x.val, y.val] W fun e w' => e = .returned (.int .i64 (cfR x y)) ∧ ∃ q os', w' = grow (W.drewN q) os' := by
  have H := hide2 (fun w => compare_any x.k y.k w)
  unfold cfR
  generalize (if nless x.k y.k then (-1 : Int) else if nless y.k x.k then 1 else 0) = r at *
  go_enter Try.func43, Try.ntmps43
  go_wp2_with fail
  refine (H.out _).mono ?_
  rintro e w1 ⟨rfl, rfl⟩
  go_wp2
  go_ret
  exact ⟨rfl, 0, _, by rw [alloc_eq_grow, alloc_eq_grow, grow_grow]; rfl⟩
theorem cmpLaysR (blk off size : Nat) (w : World) : CmpLays Try.prog 43 #[] Ro.cl 3 cfR blk off size w := fun _ _ _ _ x y => closure_any x y _

theorem isAggR (w : World) : (isAgg 45).run Try.prog w = .ok true w := by kernel_rfl
theorem sizeOfR (w : World) : (Go.sizeOf 45).run Try.prog w = .ok 3 w := by kernel_rfl

/-- Rows in memory that may be written over. -/
def Wr (w : World) (B : Nat) (v : Value) (l : List Ro) : Prop :=
  ∃ ao cap, v = .slice ao l.length cap ∧ RS w ao l.length cap l ∧ (0 < l.length → ∃ g, ao = some ⟨g, 0, none⟩ ∧ B ≤ g ∧ w.there g 0 (l.length * 3))

theorem sortF_any {w : World} {B : Nat} {v : Value} {xs : List Ro} (h : Rr w B v xs) (hB : B ≤ w.heap.size) (hl : xs.length ≤ 3518437208883) :
    Calls Try.prog 64 #[v, .func (.func 43) #[] #[]] w fun e w' => e = .returned (.tuple #[]) ∧ ∃ ys, ys.Perm xs ∧ ys.Pairwise (fun a b => nless b.k a.k = false) ∧ Wr w' B v ys ∧ Below B w w' := by
  have eg : ∀ args w, (callFunc 43 args).run Try.prog w = .ok (.enter 43 args) w := enters_of Try.func43 (by kernel_rfl) rfl
  rcases h.2 with ⟨hv, h0⟩ | ⟨g, cap, cur, hv, hbg, hh, hnc, hcm, hcs, htk⟩
  · have hx : xs = [] := List.eq_nil_of_length_eq_zero h0
    subst hv
    have hcon := AnyF.slices_SortFunc_none sortRL none 0 (.func (.func 43) #[] #[]) w
    refine hcon.mono ?_
    rintro e w' ⟨rfl, rfl⟩
    exact ⟨rfl, [], by rw [hx], List.Pairwise.nil, ⟨none, 0, rfl, ⟨rfl, Nat.le_refl _, Nat.zero_le _, fun q => absurd q (Nat.lt_irrefl 0)⟩, fun q => absurd q (Nat.lt_irrefl 0)⟩, Below.refl _ _⟩
  · subst hv
    have hgl : g < w.heap.size := (Array.getElem?_eq_some_iff.1 hh).1
    have hH : HoldsK Ro.cl 3 w g 0 xs.toArray := by
      intro j hj
      rw [size_flatK] at hj
      have hj2 : j < xs.length * 3 := by simpa using hj
      refine ⟨?_, by simp [World.frozen?, hh]⟩
      have h1 := World.ownsRow.cellAt h j hj2
      have hd : j / 3 < xs.length := by omega
      obtain ⟨r, hr⟩ := some_at (l := xs) rfl hd
      have hm : j % 3 < 3 := Nat.mod_lt _ (by decide)
      have e1 := rc_at xs (j / 3) r hr (j % 3) (r.cl[j % 3]!) (by
        have : j % 3 = 0 ∨ j % 3 = 1 ∨ j % 3 = 2 := by omega
        rcases this with q | q | q <;> rw [q] <;> rfl)
      have e2 : j / 3 * 3 + j % 3 = j := by omega
      rw [e2] at e1
      rw [Nat.zero_add, h1, e1, get_flatK _ _ _ _ hj]
      have e3 : xs.toArray[j / 3]! = r := by
        rw [getElem!_pos xs.toArray (j / 3) (by simpa using hd)]
        have := List.getElem?_eq_some_iff.1 hr
        simpa using this.2
      rw [e3]
      rfl
    have hcon := AnyQ.slices_SortFunc sortRL 3 isAggR sizeOfR Ro.cl (fun _ => rfl) (fun x v hv => by simp at hv; rcases hv with rfl | rfl | rfl <;> rfl) cfR swoR 43 #[] g 0 cap xs.toArray w eg (cmpLaysR g 0 _ w) hH hgl (by simp; omega)
    have hsz : xs.toArray.size = xs.length := by simp
    rw [hsz] at hcon
    refine hcon.mono ?_
    rintro e w' ⟨rfl, d', n, os, hp, hs, rfl⟩
    have hds : d'.size = xs.length := by rw [hp.1, hsz]
    have hH' := holdsK_sortWorldK_c Ro.cl 3 w g 0 xs.toArray d' n os hH hgl (by rw [hds, hsz])
    have hperm : d'.toList.Perm xs := by
      have := hp.2.2
      rw [show (d'.extract 0 xs.length) = d' by rw [← hds]; exact Array.extract_size] at this
      rw [show (xs.toArray.extract 0 xs.length) = xs.toArray by rw [← hsz]; exact Array.extract_size] at this
      simpa using this
    have hlen : d'.toList.length = xs.length := hperm.length_eq
    refine ⟨rfl, d'.toList, hperm, ?_, ?_, ?_⟩
    · rw [List.pairwise_iff_getElem]
      intro i j hi hj hij
      have h1 := hs i j (Nat.zero_le _) hij (by omega)
      rw [lt_cfR, getElem!_pos d' j (by simpa using hj), getElem!_pos d' i (by simpa using hi)] at h1
      simpa using h1
    · refine ⟨some ⟨g, 0, none⟩, cap, by rw [hlen], ⟨rfl, by rw [hlen]; exact hnc, hcm, fun _ => ⟨g, 0, rfl, ?_, fun i r hi j u hu => ?_⟩⟩, fun _ => ⟨g, rfl, hbg, fun j hj => ?_⟩⟩
      · exact Nat.lt_of_lt_of_le hgl (size_sortWorldK_c Ro.cl 3 w g 0 n d' os)
      · have hil := (List.getElem?_eq_some_iff.1 hi).1
        have hj : j < 3 := (List.getElem?_eq_some_iff.1 hu).1
        have hlt : i * 3 + j < d'.size * 3 := by have : d'.toList.length = d'.size := by simp
                                                 omega
        have h1 := (hH' (i * 3 + j) (by rw [size_flatK]; exact hlt)).1
        rw [get_flatK _ _ _ _ hlt] at h1
        have e1 : (i * 3 + j) / 3 = i := by omega
        have e2 : (i * 3 + j) % 3 = j := by omega
        rw [e1, e2] at h1
        have e3 : d'[i]! = r := by
          rw [getElem!_pos d' i (by simpa using hil)]
          have := (List.getElem?_eq_some_iff.1 hi).2
          simpa using this
        rw [e3] at h1
        have e4 : r.cl[j]! = u := by
          rw [getElem!_pos r.cl j hj]
          exact (List.getElem?_eq_some_iff.1 hu).2
        rw [e4] at h1
        have e5 : 0 + i * 3 + j = 0 + (i * 3 + j) := by omega
        rw [e5]
        exact h1
      · have hlt : j < d'.size * 3 := by have : d'.toList.length = d'.size := by simp
                                         omega
        obtain ⟨h1, h2⟩ := hH' j (by rw [size_flatK]; exact hlt)
        exact ⟨by rw [h1]; rfl, h2⟩
    · refine ⟨rfl, rfl, rfl, size_sortWorldK_c Ro.cl 3 w g 0 n d' os, fun k hk => ?_⟩
      have hkl : k < w.heap.size := by omega
      show (w.heap.modify g _ ++ os)[k]? = w.heap[k]?
      rw [Array.getElem?_append_left (by simpa using hkl), Array.getElem?_modify, if_neg (by omega)]

theorem sortedFunc_any (Bm b nn : Nat) {f : Lit → Option Value} {L : List Ro} (hf : Fst L f) (w : World) (hBm : Bm < w.heap.size) (hm : w.cell? ⟨Bm, 0, none⟩ = some (.map (some b))) (hM : Mg 9 w b f nn) (hsz : nn ≤ 3518437208883) (hxl : ∀ xs, AllR L xs → xs.length ≤ 3518437208883) :
    Calls Try.prog 41 #[.func (.func 65) #[] #[.pointer (some ⟨Bm, 0, none⟩)], .func (.func 43) #[] #[]] w fun e w' => ∃ v ys, e = .returned v ∧ Srt ys ∧ (∀ r, r ∈ ys ↔ fstOf L r.k = some r) ∧ Wr w' w.heap.size v ys ∧ Below w.heap.size w w' := by
  have HC := hide2 (collect_any Bm b nn hf w hBm hm hM hsz)
  clear hm hM
  go_enter Try.func41, Try.ntmps41
  go_wp2_with fail
  refine HC.out.mono ?_
  rintro e w1 ⟨v, xs, rfl, hx, hr, hb⟩
  have HB := hide2 hb
  have HSF := hide2 (sortF_any hr hb.size (hxl xs hx))
  obtain ⟨aq, cq, ev, _⟩ := hr.seq
  subst ev
  have HX := hide2 hx
  clear hx hr hb HC
  go_wp2_with fail
  refine HSF.out.mono ?_
  rintro e w2 ⟨rfl, ys, hp, hs, hw, hb2⟩
  have HY : Hid (Srt ys ∧ ∀ r, r ∈ ys ↔ fstOf L r.k = some r) := hide2 (by
    refine ⟨?_, fun r => (hp.mem_iff).trans (HX.out.2 r)⟩
    have hnd : (ys.map Ro.k).Nodup := ((hp.map Ro.k).nodup_iff).2 HX.out.1
    have hnd2 : ys.Pairwise (fun a b => a.k ≠ b.k) := List.pairwise_map.1 hnd
    refine (hs.and hnd2).imp ?_
    intro a b h
    rcases nl_tot a.k b.k with q | q | q
    · exact q
    · exact absurd q h.2
    · rw [h.1] at q; cases q)
  have HW := hide2 hw
  have HB2 := hide2 (HB.out.trans hb2)
  clear hp hs hw hb2 HSF
  go_wp2
  go_ret
  exact ⟨_, ys, rfl, HY.out.1, HY.out.2, HW.out, HB2.out⟩
end
end Go.Proofs.Ytheidhkmmihjlaa.ML

/-
  XnB: Are rows the same?
-/
set_option linter.unusedVariables false
set_option linter.unusedSimpArgs false
namespace Go.Proofs.Ytheidhkmmihjlaa.ML
open Go.RowKit Go.Shelf
attribute [local go_sem] Oper.semAt_some

section
set_option maxHeartbeats 4000000
set_option maxRecDepth 100000
variable {w : World} {ao bo : Option Addr} {len ca cb : Nat} {l : List Ro}
theorem htRo : Try.prog.underlying 45 = some (.struct (Try.prog.fieldsOf 45)) := by kernel_rfl
theorem hpRo : Try.prog.stoodInHeld 45 = false := by kernel_rfl
theorem neqRo (r : Ro) (u : World) : (binOp .neq 45 (.agg #[.string r.k, .string r.v, .int .i64 r.t]) (.agg #[.string r.k, .string r.v, .int .i64 r.t])).run Try.prog u = .ok (.bool false) u := by
  rw [run_neq_struct, run_equalIn_agg _ 9999 45 _ _ htRo hpRo]
  unfold Program.fieldsOf
  rw [Try.underlying45]
  simp only [Op.eqFields]
  simp [go_sem, Try.isAgg9, Try.isAgg2, Try.sizeOf9, Try.sizeOf2, Try.underlying9, Try.underlying2]
theorem sameRows_any (h : RS w ao len ca l) (h2 : RS w bo len cb l) :
    Calls Try.prog 17 #[.slice ao len ca, .slice bo len cb] w fun e w' => e = .returned (.bool true) ∧ ∃ q, w' = w.drewN q := by
  have hmx := h.2.2.1
  have hle := h.2.1
  have hmx2 := h2.2.2.1
  have hle2 := h2.2.1
  unfold maxLen at hmx hmx2
  have hxl := h.1
  have H := hide2 h
  have H2 := hide2 h2
  clear h h2
  go_enter Try.func17, Try.ntmps17
  go_wp2
  go_loopw [5] (fun i wr => ∃ k q : Nat, k ≤ len ∧ i = .int .i64 (k : Nat) ∧ wr = w.drewN q) (fun i _ => len - (intOf i).toNat)
  case atStart => exact ⟨0, 0, by omega, rfl, rfl⟩
  case round =>
    obtain ⟨k, q, hk, rfl, hw⟩ := hrel
    subst hw
    by_cases hlt : k < len
    · obtain ⟨r, hr⟩ := some_at hxl hlt
      obtain ⟨g, off, rfl, hg, hc⟩ := RS.at H.out (by omega)
      obtain ⟨g2, off2, rfl, hg2, hc2⟩ := RS.at H2.out (by omega)
      obtain ⟨c0, c1, c2⟩ := hc k r hr
      obtain ⟨e0, e1, e2⟩ := hc2 k r hr
      have hneq := fun u => neqRo r u
      have d1 : (k : Int) < (len : Int) := by omega
      clear hc hc2 hr
      go_wp2
      go_quiet (fail)
      go_wp2
      go_roundw
      case rel => exact ⟨k + 1, _, by omega, by go_num, by first | rfl | exact World.drewN_drewN _ _ _⟩
      case measure => simp [intOf]; omega
    · have e1 : k = len := by omega
      subst e1
      have d1 : ¬ (k : Int) < (k : Int) := by omega
      go_wp2
      go_ret
      exact ⟨rfl, q, rfl⟩
end
end Go.Proofs.Ytheidhkmmihjlaa.ML
