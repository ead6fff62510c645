/-
  Rk2: Commits sorted by their times: cmp.Compare, the closure, slices.SortFunc. (Printed by gen_rk.py.)
-/
import Derived.Test.YthfcjfhaoabdeaaGreatDoorRz15
import Derived.Test.YthfcjfhaoabdeaaGreatDoorRz18
import Derived.Test.YthfcjfhaoabdeaaGreatDoorRz5
import Derived.Shelf.SlSortCmp.WholeK
import Derived.Shelf.SlSortCmp.NoneTotal
set_option linter.unusedVariables false
set_option linter.unusedSimpArgs false
namespace Go.Proofs.YthfcjfhaoabdeaaGreatDoor
open Go.RowKit Go.Shelf Go.Sort Go.Lib
attribute [local go_sem] Oper.semAt_some

instance : Inhabited Kc := ⟨⟨0, none, 0, 0, []⟩⟩
def cfI (x y : Int) : Int := if x < y then -1 else if y < x then 1 else 0
def cfK (x y : Kc) : Int := cfI x.t y.t
theorem lt_cfK (x y : Kc) : ltOf cfK x y = decide (x.t < y.t) := by
  unfold ltOf cfK cfI
  by_cases h : x.t < y.t
  · simp [h]
  · by_cases k : y.t < x.t <;> simp [h, k]
theorem swoK : SWO (ltOf cfK) where
  irrefl x := by rw [lt_cfK]; simp
  trans x y z h1 h2 := by rw [lt_cfK] at *; simp at *; omega
  ntrans x y z h1 h2 := by rw [lt_cfK] at *; simp at *; omega

section
set_option maxHeartbeats 4000000
set_option maxRecDepth 100000
theorem isNaN_any (x : Int) (w : World) : Calls Tryz.prog 55 #[.int .i64 x] w fun e w' => e = .returned (.bool false) ∧ w' = w := by
  go_enter Tryz.func55, Tryz.ntmps55
  go_wp2
  go_ret
  exact ⟨by simp, rfl⟩
theorem cmpI_any (x y : Int) (w : World) : Calls Tryz.prog 35 #[.int .i64 x, .int .i64 y] w fun e w' => e = .returned (.int .i64 (cfI x y)) ∧ w' = w := by
  have H := ehide3 (fun x w => isNaN_any x w)
  unfold cfI
  rcases Int.lt_trichotomy x y with q | q | q
  · have d1 : decide (x < y) = true := by simpa using q
    rw [if_pos q]
    go_enter Tryz.func35, Tryz.ntmps35
    go_wp2_with fail
    refine (H.out x _).mono ?_
    rintro e w1 ⟨rfl, rfl⟩
    go_wp2_with fail
    refine (H.out y _).mono ?_
    rintro e w1 ⟨rfl, rfl⟩
    go_wp2
    go_ret
    exact ⟨rfl, rfl⟩
  · subst q
    rw [if_neg (by omega), if_neg (by omega)]
    go_enter Tryz.func35, Tryz.ntmps35
    go_wp2_with fail
    refine (H.out x _).mono ?_
    rintro e w1 ⟨rfl, rfl⟩
    go_wp2_with fail
    refine (H.out x _).mono ?_
    rintro e w1 ⟨rfl, rfl⟩
    go_wp2
    go_ret
    exact ⟨rfl, rfl⟩
  · have d1 : decide (x < y) = false := by simp; omega
    have d2 : decide (y < x) = true := by simpa using q
    rw [if_neg (by omega), if_pos q]
    go_enter Tryz.func35, Tryz.ntmps35
    go_wp2_with fail
    refine (H.out x _).mono ?_
    rintro e w1 ⟨rfl, rfl⟩
    go_wp2_with fail
    refine (H.out y _).mono ?_
    rintro e w1 ⟨rfl, rfl⟩
    go_wp2
    go_ret
    exact ⟨rfl, rfl⟩
theorem closureK_any (x y : Kc) (W : World) : Calls Tryz.prog 34 #[x.val, y.val] W fun e w' => e = .returned (.int .i64 (cfK x y)) ∧ ∃ q os', w' = grow (W.drewN q) os' := by
  have H := ehide3 (fun w => cmpI_any x.t y.t w)
  unfold cfK
  generalize cfI x.t y.t = r at *
  go_enter Tryz.func34, Tryz.ntmps34
  go_wp2_with fail
  refine (H.out _).mono ?_
  rintro e w1 ⟨rfl, rfl⟩
  go_wp2
  go_ret
  exact ⟨rfl, 0, _, by rw [alloc_eq_grow, alloc_eq_grow, grow_grow]; rfl⟩
theorem cmpLaysK (blk off size : Nat) (w : World) : CmpLays Tryz.prog 34 #[] Kc.cl 2 cfK blk off size w := fun _ _ _ _ x y => closureK_any x y _
theorem isAggK (w : World) : (isAgg 27).run Tryz.prog w = .ok true w := by kernel_rfl
theorem sizeOfK (w : World) : (Go.sizeOf 27).run Tryz.prog w = .ok 2 w := by kernel_rfl

/-- Commits in memory that may be written over. -/
def Kw (w : World) (B : Nat) (v : Value) (l : List Kc) : Prop :=
  ∃ ao cap, v = .slice ao l.length cap ∧ KS w ao l.length cap l ∧ (0 < l.length → ∃ g, ao = some ⟨g, 0, none⟩ ∧ B ≤ g ∧ w.there g 0 (l.length * 2))

theorem sortK_any {w : World} {B : Nat} {v : Value} {xs : List Kc} (h : Kr w B v xs) (hB : B ≤ w.heap.size) (hl : xs.length ≤ 10000000) :
    Calls Tryz.prog 33 #[v, .func (.func 34) #[] #[]] w fun e w' => e = .returned (.tuple #[]) ∧ ∃ ys, ys.Perm xs ∧ ys.Pairwise (fun a b => a.t ≤ b.t) ∧ Kw w' B v ys ∧ Below B w w' := by
  have eg : ∀ args w, (callFunc 34 args).run Tryz.prog w = .ok (.enter 34 args) w := enters_of Tryz.func34 (by kernel_rfl) rfl
  rcases h.2 with ⟨hv, h0⟩ | ⟨g, cap, cur, hv, hbg, hh, hnc, hcm, hcs, htk⟩
  · have hx : xs = [] := List.eq_nil_of_length_eq_zero h0
    subst hv
    have hcon := AnyF.slices_SortFunc_none sortKL none 0 (.func (.func 34) #[] #[]) w
    refine hcon.mono ?_
    rintro e w' ⟨rfl, rfl⟩
    exact ⟨rfl, [], by rw [hx], List.Pairwise.nil, ⟨none, 0, rfl, ⟨rfl, Nat.le_refl _, Nat.zero_le _, fun q => absurd q (Nat.lt_irrefl 0)⟩, fun q => absurd q (Nat.lt_irrefl 0)⟩, Below.refl _ _⟩
  · subst hv
    have hgl : g < w.heap.size := (Array.getElem?_eq_some_iff.1 hh).1
    have hH : HoldsK Kc.cl 2 w g 0 xs.toArray := by
      intro j hj
      rw [size_flatK] at hj
      have hj2 : j < xs.length * 2 := by simpa using hj
      refine ⟨?_, by simp [World.frozen?, hh]⟩
      have h1 := World.ownsRow.cellAt h j hj2
      have hd : j / 2 < xs.length := by omega
      obtain ⟨r, hr⟩ := some_at (l := xs) rfl hd
      have hm : j % 2 < 2 := Nat.mod_lt _ (by decide)
      have e1 := kc_at xs (j / 2) r hr (j % 2) (r.cl[j % 2]!) (by
        have : j % 2 = 0 ∨ j % 2 = 1 := by omega
        rcases this with q | q <;> rw [q] <;> rfl)
      have e2 : j / 2 * 2 + j % 2 = j := by omega
      rw [e2] at e1
      rw [Nat.zero_add, h1, e1, get_flatK _ _ _ _ hj]
      have e3 : xs.toArray[j / 2]! = r := by
        rw [getElem!_pos xs.toArray (j / 2) (by simpa using hd)]
        have := List.getElem?_eq_some_iff.1 hr
        simpa using this.2
      rw [e3]
      rfl
    have hcon := AnyQ.slices_SortFunc sortKL 2 isAggK sizeOfK Kc.cl (fun _ => rfl) (fun x v hv => by simp at hv; rcases hv with rfl | rfl <;> rfl) cfK swoK 34 #[] g 0 cap xs.toArray w eg (cmpLaysK g 0 _ w) hH hgl (by simp; omega)
    have hsz : xs.toArray.size = xs.length := by simp
    rw [hsz] at hcon
    refine hcon.mono ?_
    rintro e w' ⟨rfl, d', n, os, hp, hs, rfl⟩
    have hds : d'.size = xs.length := by rw [hp.1, hsz]
    have hH' := holdsK_sortWorldK_c Kc.cl 2 w g 0 xs.toArray d' n os hH hgl (by rw [hds, hsz])
    have hperm : d'.toList.Perm xs := by
      have := hp.2.2
      rw [show (d'.extract 0 xs.length) = d' by rw [← hds]; exact Array.extract_size] at this
      rw [show (xs.toArray.extract 0 xs.length) = xs.toArray by rw [← hsz]; exact Array.extract_size] at this
      simpa using this
    have hlen : d'.toList.length = xs.length := hperm.length_eq
    refine ⟨rfl, d'.toList, hperm, ?_, ?_, ?_⟩
    · rw [List.pairwise_iff_getElem]
      intro i j hi hj hij
      have h1 := hs i j (Nat.zero_le _) hij (by omega)
      rw [lt_cfK, getElem!_pos d' j (by simpa using hj), getElem!_pos d' i (by simpa using hi)] at h1
      simpa using h1
    · refine ⟨some ⟨g, 0, none⟩, cap, by rw [hlen], ⟨rfl, by rw [hlen]; exact hnc, hcm, fun _ => ⟨g, 0, rfl, ?_, fun i r hi j u hu => ?_⟩⟩, fun _ => ⟨g, rfl, hbg, fun j hj => ?_⟩⟩
      · exact Nat.lt_of_lt_of_le hgl (size_sortWorldK_c Kc.cl 2 w g 0 n d' os)
      · have hil := (List.getElem?_eq_some_iff.1 hi).1
        have hj : j < 2 := (List.getElem?_eq_some_iff.1 hu).1
        have hlt : i * 2 + j < d'.size * 2 := by have : d'.toList.length = d'.size := by simp
                                                 omega
        have h1 := (hH' (i * 2 + j) (by rw [size_flatK]; exact hlt)).1
        rw [get_flatK _ _ _ _ hlt] at h1
        have e1 : (i * 2 + j) / 2 = i := by omega
        have e2 : (i * 2 + j) % 2 = j := by omega
        rw [e1, e2] at h1
        have e3 : d'[i]! = r := by
          rw [getElem!_pos d' i (by simpa using hil)]
          have := (List.getElem?_eq_some_iff.1 hi).2
          simpa using this
        rw [e3] at h1
        have e4 : r.cl[j]! = u := by
          rw [getElem!_pos r.cl j hj]
          exact (List.getElem?_eq_some_iff.1 hu).2
        rw [e4] at h1
        have e5 : 0 + i * 2 + j = 0 + (i * 2 + j) := by omega
        rw [e5]
        exact h1
      · have hlt : j < d'.size * 2 := by have : d'.toList.length = d'.size := by simp
                                         omega
        obtain ⟨h1, h2⟩ := hH' j (by rw [size_flatK]; exact hlt)
        exact ⟨by rw [h1]; rfl, h2⟩
    · refine ⟨rfl, rfl, rfl, size_sortWorldK_c Kc.cl 2 w g 0 n d' os, fun k hk => ?_⟩
      have hkl : k < w.heap.size := by omega
      show (w.heap.modify g _ ++ os)[k]? = w.heap[k]?
      rw [Array.getElem?_append_left (by simpa using hkl), Array.getElem?_modify, if_neg (by omega)]
end
end Go.Proofs.YthfcjfhaoabdeaaGreatDoor
