/-
  MrC: The rows of two files, less what is gone, of any lists (MergeRows).
-/
import Derived.Test.YtffgmpgmflbekaaGreatDoorMrB
import Derived.Test.YtffgmpgmflbekaaGreatDoorMrD
set_option linter.unusedVariables false
set_option linter.unusedSimpArgs false
namespace Go.Proofs.YtffgmpgmflbekaaGreatDoor
open Go.RowKit Go.Shelf
attribute [local go_sem] Oper.semAt_some

section
set_option maxHeartbeats 8000000
set_option maxRecDepth 100000
theorem Rr.nil0 {w : World} {B : Nat} {ao : Option Addr} {cap : Nat} {l : List Ro} (h : Rr w B (.slice ao l.length cap) l) : ao = none → cap = 0 := fun e => by
  subst e
  rcases h.2 with ⟨q, _⟩ | ⟨g, c, cur, q, _⟩
  · injection q
  · injection q with q1; cases q1
theorem gr_empty (w : World) : Gr (w.alloc (.cells #[] 30)) w.heap.size (.slice (some ⟨w.heap.size, 0, none⟩) 0 0) [] :=
  ⟨rfl, .inr ⟨w.heap.size, 0, #[], rfl, Nat.le_refl _, heap_alloc_new _ _, Nat.le_refl _, Nat.zero_le _, rfl, rfl⟩⟩
def zR : Array Value := #[.string .empty, .string .empty, .int .i64 0]
theorem zR_one : zR.all (·.oneCell') = true := Array.all_eq_true_iff_forall_mem.2 (fun v hv => by simp [zR] at hv; rcases hv with rfl | rfl <;> rfl)
theorem bel_sets {B b : Nat} {a : World} (hb : B ≤ b) : ∀ (vs : List Value) (o : Nat) (w : World), Below B a w → Below B a (w.setCells b o vs)
  | [], _, _, h => h
  | v :: r, o, w, h => bel_sets hb r (o + 1) _ (h.setCell (by exact hb) v)
theorem there_part {w : World} {g n o k : Nat} (h : w.there g 0 n) (hk : o + k ≤ n) : w.there g o k := fun j hj => by
  have := h (o + j) (by omega)
  rwa [Nat.zero_add] at this

variable {w : World} {ao bo go : Option Addr} {la ca lb cb lg cg : Nat} {a b : List Ro} {gone : List Gn}
theorem mergeRows_walk (ha : RS w ao la ca a) (hb : RS w bo lb cb b) (hg : GS w go lg cg gone) (na : ao = none → ca = 0) (nb : bo = none → cb = 0) (ng : go = none → cg = 0) (h1 : la ≤ 1000000) (h2 : lb ≤ 1000000) (h3 : lg ≤ 1000000) (oa : ∀ r ∈ a, r.ok) (ob : ∀ r ∈ b, r.ok) (og : ∀ g ∈ gone, g.ok) :
    Calls Tryz.prog 3 #[.slice ao la ca, .slice bo lb cb, .slice go lg cg] w fun e w' => e = .returned (.bool true) ∧ Below w.heap.size w w' := by
  obtain rfl := ha.1
  obtain rfl := hb.1
  obtain rfl := hg.1
  have HS := hide2 (shown_any w)
  have HA := hide2 ha
  have HB := hide2 hb
  have HG := hide2 hg
  have SVA := hide2 (RS.sv ha na)
  have SVB := hide2 (RS.sv hb nb)
  have SVG := hide2 (GS.sv hg ng)
  have HOA := hide2 oa
  have HOB := hide2 ob
  have HOG := hide2 og
  have hgm := hg.2.2.1
  have hgc := hg.2.1
  unfold maxLen at hgm
  clear ha hb hg na nb ng oa ob og
  go_enter Tryz.func3, Tryz.ntmps3
  go_wp2_with fail
  refine HS.out.mono ?_
  rintro e w1 ⟨rfl, hw1⟩
  have B1 := hide2 hw1
  clear hw1 HS
  -- the copies
  obtain ⟨v2, w2, hrun2, hown2, hB2, hs2, _⟩ := rapp (w := w1.alloc (.cells #[] 28)) (rr_empty w1) (by simp) ((SVA.out.keep B1.out).keep (below1 w1 _)) (by simp; omega)
  rw [List.nil_append] at hown2
  have hb2 : Below w1.heap.size w1 w2 := hB2 _ _ (Nat.le_refl _) (below1 w1 _)
  have B2 := hide2 (B1.out.trans (hb2.mono B1.out.size))
  obtain ⟨v3, w3, hrun3, hown3, hB3, hs3, _⟩ := rapp (w := w2.alloc (.cells #[] 28)) (rr_empty w2) (by simp) ((SVB.out.keep B2.out).keep (below1 w2 _)) (by simp; omega)
  rw [List.nil_append] at hown3
  have hb3 : Below w2.heap.size w2 w3 := hB3 _ _ (Nat.le_refl _) (below1 w2 _)
  have B3 := hide2 (B2.out.trans (hb3.mono B2.out.size))
  obtain ⟨v4, w4, hrun4, hown4, hB4, hs4⟩ := gapp (w := w3.alloc (.cells #[] 30)) (gr_empty w3) (by simp) ((SVG.out.keep B3.out).keep (below1 w3 _)) (by simp; omega)
  rw [List.nil_append] at hown4
  have hb4 : Below w3.heap.size w3 w4 := hB4 _ _ (Nat.le_refl _) (below1 w3 _)
  have B4 := hide2 (B3.out.trans (hb4.mono B3.out.size))
  have hx4 := Rr.keep (Rr.keep hown2 hb3) hb4
  have hy4 := Rr.keep hown3 hb4
  obtain ⟨ax, cx, rfl, hrx⟩ := Rr.seq hx4
  obtain ⟨ay, cy, rfl, hry⟩ := Rr.seq hy4
  obtain ⟨az, cz, rfl, hrz⟩ := Gr.seq hown4
  have HX := hide2 hrx
  have HY := hide2 hry
  have HZ := hide2 hrz
  have HROWS := hide2 (rowsP_any hrx hry hrz (Rr.nil0 hy4) h1 h2 h3 HOA.out HOB.out HOG.out)
  have HR2 := hide2 hrun2
  have HR3 := hide2 hrun3
  have HR4 := hide2 hrun4
  clear hrun2 hrun3 hrun4 hown2 hown3 hown4 hB2 hB3 hB4 hs2 hs3 hs4 hx4 hy4 hrx hry hrz hb2 hb3 hb4 SVA SVB SVG
  go_wp2_with (at_builtin; refine Hid.out ?_)
  refine hide2 ?_
  refine Lib.wpList_append_run _ rfl _ _ _ _ rfl _ _ rfl rfl _ _ HR2.out ?_
  go_frame
  go_wp2_with (at_builtin; refine Hid.out ?_)
  refine hide2 ?_
  refine Lib.wpList_append_run _ rfl _ _ _ _ rfl _ _ rfl rfl _ _ HR3.out ?_
  go_frame
  go_wp2_with (at_builtin; refine Hid.out ?_)
  refine hide2 ?_
  refine Lib.wpList_append_run _ rfl _ _ _ _ rfl _ _ rfl rfl _ _ HR4.out ?_
  go_frame
  clear HR2 HR3 HR4
  go_wp2_with fail
  refine HROWS.out.mono ?_
  rintro e w5 ⟨v5, rfl, hw5, hb5⟩
  have B5 := hide2 (B4.out.trans (hb5.mono B4.out.size))
  have HB5 := hide2 hb5
  have HDOC := hide2 (rowsD_any (HA.out.keep B5.out) (HB.out.keep B5.out) (HG.out.keep B5.out) h1 h2)
  obtain ⟨al, cl, rfl, hrl, htl⟩ := hw5
  have HL := hide2 hrl
  have HTL := hide2 htl
  have hlm := hrl.2.2.1
  have hlc := hrl.2.1
  unfold maxLen at hlm
  clear hrl htl hb5 HROWS
  go_wp2_with fail
  refine HDOC.out.mono ?_
  rintro e w6 ⟨v6, rfl, hr6, hb6⟩
  obtain ⟨a6, c6, rfl, hs6⟩ := hr6.seq
  have HSAME := hide2 (sameRows_any (HL.out.keep hb6) hs6)
  have HB6 := hide2 (HB5.out.trans (hb6.mono HB5.out.size))
  have HTH6 : Hid (0 < (rowsD a b gone).length → ∃ g, al = some ⟨g, 0, none⟩ ∧ w4.heap.size ≤ g ∧ w6.there g 0 ((rowsD a b gone).length * 3)) := hide2 (fun q => by
    obtain ⟨g, e, hg, ht⟩ := HTL.out q
    refine ⟨g, e, hg, fun j hj => ?_⟩
    obtain ⟨t1, t2⟩ := ht j hj
    have hlt : g < w5.heap.size := by
      obtain ⟨y, hy⟩ := Option.isSome_iff_exists.1 t1
      exact World.block_lt_of_cell? w5 _ hy
    exact ⟨by rw [hb6.cell (p := ⟨g, 0 + j, none⟩) hlt]; exact t1, by rw [hb6.frozen (p := ⟨g, 0 + j, none⟩) hlt]; exact t2⟩)
  clear hr6 hb6 hs6 HDOC HL HTL
  generalize (rowsD a b gone).length = n at *
  go_wp2_with fail
  refine HSAME.out.mono ?_
  rintro e w7 ⟨rfl, q, rfl⟩
  clear HSAME
  go_wp2_with fail
  go_loopw [13] (fun i wr => ∃ k : Nat, k ≤ n ∧ i = .int .i64 (k : Nat) ∧ Hid (Below w4.heap.size w4 wr ∧ (0 < n → ∃ g, al = some ⟨g, 0, none⟩ ∧ w4.heap.size ≤ g ∧ wr.there g 0 (n * 3)))) (fun i _ => n - (intOf i).toNat)
  case atStart => exact ⟨0, by omega, rfl, hide2 ⟨below_drewN HB6.out _, HTH6.out⟩⟩
  case round =>
    obtain ⟨k, hk, rfl, HK⟩ := hrel
    clear HTH6 HB6
    by_cases hlt : k < n
    · obtain ⟨g, rfl, hg4, hth⟩ := HK.out.2 (by omega)
      have d1 : (k : Int) < (n : Int) := by omega
      have TH := hide2 (there_part (o := k * 3) (k := 3) hth (by omega))
      have SZ : Hid ((Tryz.prog.info? 28).map (·.size) = some zR.size) := hide2 (by kernel_rfl)
      obtain ⟨W2, hW2⟩ : ∃ W2, W2 = wr.setCells g (k * 3) zR.toList := ⟨_, rfl⟩
      have HW2 := hide2 hW2
      have NX : Hid (Below w4.heap.size w4 W2 ∧ (0 < n → ∃ g', (some ⟨g, 0, none⟩ : Option Addr) = some ⟨g', 0, none⟩ ∧ w4.heap.size ≤ g' ∧ W2.there g' 0 (n * 3))) := hide2 ⟨by rw [hW2]; exact bel_sets hg4 _ _ _ HK.out.1, fun _ => ⟨g, rfl, hg4, by rw [hW2]; exact World.there_setCells hth _ _ _⟩⟩
      clear hW2 hth HK
      go_wp2_with (first
        | (refine wpList_store_mid rfl 28 (Operand.tmp 46) (Operand.tmp 45) rfl g (k * 3) zR rfl rfl ?_ ?_ zR_one ?_
           · exact TH.out
           · exact SZ.out
           rw [← HW2.out]))
      go_wp2_with fail
      go_roundw
      case rel => exact ⟨k + 1, by omega, by go_num, NX⟩
      case measure => simp [intOf]; omega
    · have d1 : ¬ (k : Int) < (n : Int) := by omega
      have B8 := hide2 (B4.out.trans (HK.out.1.mono B4.out.size))
      have HS1 := hide2 (sameRows_any (HX.out.keep HK.out.1) (HA.out.keep B8.out))
      obtain ⟨U, hU⟩ : ∃ U, U = wr := ⟨_, rfl⟩
      subst hU
      go_wp2_with fail
      refine HS1.out.mono ?_
      rintro e w8 ⟨rfl, q8, rfl⟩
      have hk8 : Below w4.heap.size w4 (U.drewN q8) := below_drewN HK.out.1 _
      have HK8 := hide2 hk8
      have B9 := hide2 (below_drewN B8.out q8)
      have HS2 := hide2 (sameRows_any (HY.out.keep hk8) (HB.out.keep B9.out))
      clear HS1 hk8
      go_wp2_with fail
      refine HS2.out.mono ?_
      rintro e w9 ⟨rfl, q9, rfl⟩
      clear HS2
      have HK9 := hide2 (below_drewN HK8.out q9)
      have B10 := hide2 (below_drewN B9.out q9)
      obtain ⟨V, hV⟩ : ∃ V, V = (U.drewN q8).drewN q9 := ⟨_, rfl⟩
      rw [← hV] at HK9 B10
      go_wp2_with fail
      rw [← World.drewN_drewN, ← hV]
      clear hV HK8 B9 HK B8
      go_loopw [12, 16] (fun s i wr => ∃ k2 q : Nat, k2 ≤ gone.length ∧ s = .bool true ∧ i = .int .i64 (k2 : Nat) ∧ wr = V.drewN q) (fun _ i _ => gone.length - (intOf i).toNat)
      case atStart => exact ⟨0, 0, by omega, rfl, rfl, rfl⟩
      case round =>
        obtain ⟨k2, q2, hk2, rfl, rfl, hw2⟩ := hrel
        subst hw2
        by_cases hlt2 : k2 < gone.length
        · obtain ⟨r, hr⟩ := some_at (n := gone.length) rfl hlt2
          obtain ⟨g, off, rfl, hg, hc⟩ := GS.at (HZ.out.keep HK9.out) (by omega)
          obtain ⟨g2, off2, rfl, hg2, hc2⟩ := GS.at (HG.out.keep B10.out) (by omega)
          obtain ⟨c0, c1⟩ := hc k2 r hr
          obtain ⟨e0, e1⟩ := hc2 k2 r hr
          have hneq := fun u => eqlGn r u
          have d2 : (k2 : Int) < (gone.length : Int) := by omega
          clear hc hc2 hr
          go_wp2
          go_quiet (fail)
          go_wp2
          go_roundw
          case rel => exact ⟨k2 + 1, _, by omega, rfl, by go_num, by first | rfl | exact World.drewN_drewN _ _ _⟩
          case measure => simp [intOf]; omega
        · have e1 : k2 = gone.length := by omega
          subst e1
          have d2 : ¬ (gone.length : Int) < (gone.length : Int) := by omega
          go_wp2
          go_ret
          exact ⟨rfl, below_drewN B10.out _⟩
end
end Go.Proofs.YtffgmpgmflbekaaGreatDoor
