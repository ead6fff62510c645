/-
  Lb1: Who is in a set, one by one: (workers).all as what a range over a function goes over; slices.Collect of it.
-/
import Derived.Test.YtbmgclnhooaniaaDoorLa3
import Derived.RangeFuncNested
import Derived.RangeFuncBound
import Derived.RangeFuncCalls
import Derived.RangeFuncLeaves
import Derived.Shelf.Abstract
import Derived.Shelf.RegionOpen
import Derived.OwnWalkIn
import Derived.TacticsInMore
import Derived.LoopNIn
import Derived.LoopIn
import Derived.Maps.AppendAt
set_option linter.unusedVariables false
set_option linter.unusedSimpArgs false
namespace Go.Proofs.YtbmgclnhooaniaaDoor
open Go.RowKit Go.Shelf
attribute [local go_sem] Oper.semAt_some

def nv (n : Nat) : Value := .int .i64 (n : Int)

section
set_option maxHeartbeats 2000000
set_option maxRecDepth 100000
theorem all_in (F : Fence) (n : Nat) (hF : F.fn 40) (hro : F.round = none) (s : Int) (w : World) :
    CallsIn F n Tryd.prog 40 #[.int .u16 s] w fun e w' => e = .returned (.func (.func 49) #[] #[.pointer (some ⟨w.heap.size, 0, none⟩)]) ∧ w' = w.alloc (.cells #[.int .u16 s] 56) := by
  refine callsIn_of_wp Tryd.func40 rfl hF ?_ hro
  simp only [Tryd.ntmps40, List.size_toArray, List.length_cons, List.length_nil, Nat.reduceAdd, Nat.reduceSub, Array.replicate_succ, Array.replicate_zero, List.push_toArray, List.append_toArray, List.nil_append, List.cons_append]
  gi_wp2
  go_ret
  exact ⟨rfl, rfl⟩

theorem all1_in (n : Nat) (l B s : Nat) (hs : s < 65536) (J Jx : List Nat → World → Prop)
    (hY : ∀ pre x W, J pre W → pre.length < 16 → YieldAt Fence.wide (n - 1) Tryd.prog l #[nv x] W fun e W' =>
      (e = .returned (.bool true) ∧ J (pre ++ [x]) W' ∧ Below 1 W W') ∨ (e = .returned (.bool false) ∧ Jx (pre ++ [x]) W'))
    (W : World) (hT : Tab W) (hB : W.cell? ⟨B, 0, none⟩ = some (.int .u16 (s : Int))) (h0 : J [] W) :
    CallsIn Fence.wide n Tryd.prog 49 #[.func (.yield l) #[] #[], .pointer (some ⟨B, 0, none⟩)] W fun e W' => (∃ v, e = .returned v) ∧
      ((∃ ys, ys = Lk.rds s ∧ J ys W') ∨ (∃ pre, pre <+: Lk.rds s ∧ Jx pre W')) := by
  refine callsIn_of_wp Tryd.func49 rfl trivial ?_ rfl
  simp only [Tryd.ntmps49, List.size_toArray, List.length_cons, List.length_nil, Nat.reduceAdd, Nat.reduceSub, Array.replicate_succ, Array.replicate_zero, List.push_toArray, List.append_toArray, List.nil_append, List.cons_append]
  gi_wp2
  gi_loopw [3] (fun p wr => ∃ (x : Nat) (pre : List Nat), p = .int .u16 (x : Int) ∧ x < 65536 ∧ Lk.rds s = pre ++ Lk.rds x ∧ Hid (Tab wr) ∧ J pre wr)
    (fun p wr => match p with | .int _ i => i.toNat | _ => 0)
  case atStart =>
    exact ⟨s, [], rfl, hs, rfl, hide2 hT, h0⟩
  case round =>
    obtain ⟨x, pre, rfl, hx, hr, HT, hJs⟩ := hrel
    have HR := hide2 hr
    clear hr
    by_cases hx0 : x = 0
    · subst hx0
      gi_wp2
      go_end0
      refine ⟨⟨_, rfl⟩, .inl ⟨pre, ?_, hJs⟩⟩
      have := HR.out
      rw [rds_zero, List.append_nil] at this
      exact this.symm
    · obtain ⟨k, m, hl⟩ := low_ex hx hx0
      have hfirst := rds_first hl.lt hl.bit (fun j hj => hl.no hj)
      have hxne : ((x : Int) != 0) = true := by simpa using hx0
      have hand : bits BinOp.and IntKind.u16 (x : Int) ((x : Int) - 1) = ((x - 2 ^ k : Nat) : Int) := by
        have e : ((x : Int) - 1) = ((x - 1 : Nat) : Int) := by omega
        rw [e, and16 hx (by omega), low_out hl.eq]
      have hlt : x - 2 ^ k < x := by have := Nat.two_pow_pos k; have := Lk.bit_ge hl.bit; omega
      have hlen : pre.length < 16 := by
        have := rds_len s
        rw [HR.out, hfirst] at this
        simp at this; omega
      have HZ := hide2 (fun w hT => tz_any hl hx w hT)
      have HN : Hid (Lk.rds s = (pre ++ [k]) ++ Lk.rds (x - 2 ^ k)) := hide2 (by rw [HR.out, hfirst]; simp)
      have hx1 : (1 : Int) ≤ (x : Int) := by omega
      obtain ⟨fn, tmps, assign, body, hy, hR⟩ := hY pre k wr hJs hlen
      have HY := hide2 hR
      clear hfirst hl HR
      generalize x - 2 ^ k = x' at *
      gi_wp2
      refine ⟨trivial, fun q => (by cases q), ?_⟩
      refine (callsIn_wide.2 (HZ.out _ HT.out)).mono ?_
      rintro e w' ⟨rfl, rfl⟩
      simp only [nv] at hy
      gi_wp2
      refine ⟨fun q => (by cases q), ?_⟩
      refine HY.out.mono ?_
      rintro e W3 (⟨rfl, hJ3, hk3⟩ | ⟨rfl, hJx3⟩)
      · have HT3 := hide2 (HT.out.below hk3 (Nat.le_refl _))
        clear hk3
        gi_wp2
        go_roundw
        case rel => exact ⟨x', pre ++ [k], rfl, by omega, HN.out, HT3, hJ3⟩
        case measure => simp; omega
      · gi_wp2
        refine bodyPost_ret (results_none rfl _ _ _) rfl ?_
        exact ⟨⟨_, rfl⟩, .inr ⟨pre ++ [k], ⟨Lk.rds x', HN.out.symm⟩, hJx3⟩⟩

/-- What all hands back goes through the set, rising. -/
theorem all_stops (n : Nat) (B s : Nat) (hs : s < 65536) (w : World) (hT : Tab w) (hB : B < w.heap.size) (hc : w.cell? ⟨B, 0, none⟩ = some (.int .u16 (s : Int))) :
    SeqStopsK Fence.wide n Tryd.prog 49 #[.pointer (some ⟨B, 0, none⟩)] (fun x : Nat => #[nv x]) (Below 1) (fun ys => ys = Lk.rds s) (fun pre => pre <+: Lk.rds s) 16 w := fun l J Jx W hW _ _ hY h0 =>
  all1_in n l B s hs J Jx hY W (hT.keep hW) ((hW.cell (p := ⟨B, 0, none⟩) hB).trans hc) h0

theorem info3 : (Tryd.prog.info? 3).map (fun i => (i.zero, i.size, i.bytes)) = some (some (.int .i64 0), 1, 8) := by kernel_rfl

/-- A row of numbers that a call has made. -/
def Hr (w : World) (base : Nat) (v : Value) (l : List Nat) : Prop := w.ownsRow base 3 1 v l.length (l.map nv)

theorem appendSeq_in (n : Nat) (hn : 1 ≤ n) (B s : Nat) (hs : s < 65536) (w : World) (hT : Tab w) (hB : B < w.heap.size) (hc : w.cell? ⟨B, 0, none⟩ = some (.int .u16 (s : Int))) :
    CallsIn Fence.wide n Tryd.prog 48 #[.slice none 0 0, .func (.func 49) #[] #[.pointer (some ⟨B, 0, none⟩)]] w fun e w' => ∃ v, e = .returned v ∧ Hr w' w.heap.size v (Lk.rds s) ∧ Below w.heap.size w w' := by
  obtain ⟨i0, hi, hz0, hz1, hz2⟩ := info_parts info3
  have h00 := hT.1
  refine callsIn_of_wp_marks Tryd.func48 rfl trivial ?_ rfl
  simp only [Tryd.ntmps48, List.size_toArray, List.length_cons, List.length_nil, Nat.reduceAdd, Nat.reduceSub, Array.replicate_succ, Array.replicate_zero, List.push_toArray, List.append_toArray, List.nil_append, List.cons_append]
  gi_wp2
  have bO := Boxed.new w 32 (.slice none 0 0)
  have hB0 : Below w.heap.size w (w.alloc (.cells #[.slice none 0 0] 32)) := below1 w _
  refine wpIn_rangeFunc_ownG (n := n) rfl hn (gf := 49) (lb := #[.pointer (some ⟨B, 0, none⟩)]) rfl trivial (enters_of Tryd.func49 (by kernel_rfl) rfl)
    (all_stops (n - 1) B s hs _ (hT.keep hB0) (by simp; omega) ((hB0.cell (p := ⟨B, 0, none⟩) hB).trans hc)) belowK_t (belowK_b (by simp)) (Below.refl _ _) (fun _ => rfl)
    (fun pre W => (∃ v, Boxed W w.heap.size 32 v ∧ W.ownsRow w.heap.size 3 1 v pre.length (pre.map nv) ∧ True) ∧ Below w.heap.size w W)
    (fun _ _ _ => False)
    (OwnFrom.and (Own.from (holdsRow_own w.heap.size w.heap.size 32 3 1 (fun (pre : List Nat) => pre.length) (fun (pre : List Nat) => pre.map nv) (fun (pre : List Nat) v => True)) _) (ownFrom_below (Nat.le_refl _) (by simp)))
    (fun _ _ _ _ _ hs _ _ => hs)
    ⟨⟨_, bO, World.ownsRow_nil _ _ _ _, trivial⟩, hB0⟩
    (fun x => { tmps := #[.slice none 0 0, .func (.func 49) #[] #[.pointer (some ⟨B, 0, none⟩)], .pointer (some ⟨w.heap.size, 0, none⟩), undef, .slice none 0 0, nv x, .func (.func 49) #[] #[.pointer (some ⟨B, 0, none⟩)], nv x, undef, undef, undef, undef, undef], defers := [] }) ?assign ?body ?done ?stop
  case assign =>
    intro l x W K hK
    unfold nv at hK ⊢
    gi_wp2
    exact hK
  case body =>
    rintro l pre x W ⟨⟨v, hv, hrow, _⟩, hB⟩ hlt
    have hc := hv.cell
    unfold nv
    gi_wp2_with (gi_at_builtin; refine wpListIn_append_own _ rfl _ _ 32 rfl w.heap.size 3 i0 (.int .i64 0) 1 8 Tryd.underlying32 hi hz0 hz1 hz2 rfl (by decide) _ _ _ rfl (hrow.alloc _) ⟨W.heap.size, 0, none⟩ 1 1 [.int .i64 (x : Int)] rfl rfl (cell_one_new _ _ _) (by simp [Value.oneCell']) (by unfold maxLen; omega) (by omega) (by have := hB.size; simp; omega) ?_; intro v' w1 hown' hgrow _; obtain ⟨g', cap', rfl⟩ := ownsRow_succ hown'; obtain ⟨hv1, hv2, hr2, hk2, hb2⟩ := hv.appended (by decide) hrow hB.size (Nat.le_refl _) hown' hgrow; have hc1 := hv1.cell; have hf1 := hv1.frozen)
    exact ⟨hk2.from _, hb2.mono (by omega), ⟨_, hv2, by rw [List.length_append, List.map_append]; exact hr2, trivial⟩, hB.trans hb2⟩
  case done =>
    rintro D ys W hD rfl ⟨⟨v, hv, hrow, _⟩, hB⟩ hK
    have hc := hv.cell
    gi_wp2
    refine ⟨by simp, .inl ⟨_, _, rfl, run_takeDeferred hK, ?_⟩⟩
    exact ⟨_, results_tmp rfl _ _ _, v, rfl, ownsRow_putObj hrow _ hK rfl, hB.trans (belowK_b (w := w) (Nat.le_refl _) W D _ _ (by simp at hD; omega) hK rfl rfl)⟩
  case stop =>
    rintro D c pre W _ _ h _
    exact h.elim

theorem all_any (s : Int) (w : World) : Calls Tryd.prog 40 #[.int .u16 s] w fun e w' => e = .returned (.func (.func 49) #[] #[.pointer (some ⟨w.heap.size, 0, none⟩)]) ∧ w' = w.alloc (.cells #[.int .u16 s] 56) :=
  callsIn_wide.1 (all_in Fence.wide 3 trivial rfl s w)

/-- All in a set, rising, in new memory. -/
theorem collect_any (B s : Nat) (hs : s < 65536) (w : World) (hT : Tab w) (hB : B < w.heap.size) (hc : w.cell? ⟨B, 0, none⟩ = some (.int .u16 (s : Int))) :
    Calls Tryd.prog 39 #[.func (.func 49) #[] #[.pointer (some ⟨B, 0, none⟩)]] w fun e w' => ∃ v, e = .returned v ∧ Hr w' w.heap.size v (Lk.rds s) ∧ Below w.heap.size w w' := by
  have HA := hide2 (callsIn_wide.1 (appendSeq_in 3 (by omega) B s hs w hT hB hc))
  clear hT hc
  go_enter Tryd.func39, Tryd.ntmps39
  go_wp2_with fail
  refine HA.out.mono ?_
  rintro e w1 ⟨v, rfl, hr, hb⟩
  have HR := hide2 hr
  clear hr
  go_wp2
  go_ret
  exact ⟨v, rfl, HR.out, hb⟩

theorem Hr.form {w : World} {base : Nat} {v : Value} {l : List Nat} (h : Hr w base v l) : ∃ ao cap, v = .slice ao l.length cap ∧ l.length ≤ cap := by
  rcases h.2 with ⟨rfl, h0⟩ | ⟨g, cap, cur, rfl, _, _, hc, _⟩
  · exact ⟨none, 0, by rw [h0], by omega⟩
  · exact ⟨_, cap, rfl, hc⟩
theorem Hr.cell {w : World} {base : Nat} {ao : Option Addr} {cap : Nat} {l : List Nat} (h : Hr w base (.slice ao l.length cap) l) {i : Nat} (hi : i < l.length) : ∃ g, ao = some ⟨g, 0, none⟩ ∧ base ≤ g ∧ g < w.heap.size ∧ ∀ i, i < l.length → w.cell? ⟨g, i, none⟩ = some (nv (l.getD i 0)) := by
  rcases h.2 with ⟨e, h0⟩ | ⟨g, cap', cur, e, hb, hg, _, _, hcs, ht⟩
  · omega
  · cases e
    refine ⟨g, rfl, hb, (Array.getElem?_eq_some_iff.1 hg).1, fun j hj => ?_⟩
    rw [Go.Joins.cell_of_block hg j]
    have : cur[j]? = (cur.toList.take (l.length * 1))[j]? := by
      rw [List.getElem?_take, if_pos (by omega), Array.getElem?_toList]
    rw [this, ht, List.getElem?_map, List.getElem?_eq_getElem hj]
    simp [List.getD, List.getElem?_eq_getElem hj]
theorem Hr.low {w : World} {base base' : Nat} {v : Value} {l : List Nat} (h : Hr w base v l) (hb : base' ≤ base) : Hr w base' v l := by
  refine ⟨h.1, ?_⟩
  rcases h.2 with q | ⟨g, cap, cur, e, hbs, r⟩
  · exact .inl q
  · exact .inr ⟨g, cap, cur, e, Nat.le_trans hb hbs, r⟩
theorem Hr.nil (w : World) (base : Nat) : Hr w base (.slice none 0 0) [] := World.ownsRow_nil _ _ _ _
theorem Hr.keep {w w' : World} {base : Nat} {v : Value} {l : List Nat} (h : Hr w base v l) (hb : Below w.heap.size w w') : Hr w' base v l := by
  refine ⟨h.1, ?_⟩
  rcases h.2 with q | ⟨g, cap, cur, e, hbs, hg, r⟩
  · exact .inl q
  · exact .inr ⟨g, cap, cur, e, hbs, (hb.block g (Array.getElem?_eq_some_iff.1 hg).1).trans hg, r⟩

/-- Against, told in one way. -/
def agV (v : Nat) (me : Int) (wr : Bool) : List Nat := if isW me = false then [] else if Lk.rt v = false then [] else Lk.agn v me.toNat wr
theorem against_none {v me : Int} {wr : Bool} (h : isW me = false) (w : World) :
    Calls Tryd.prog 21 #[.int .u64 v, .int .i64 me, .bool wr] w fun e w' => e = .returned (.slice none 0 0) ∧ Below w.heap.size w w' := by
  have HA := hide2 (asked_none (v := v) h w)
  go_enter Tryd.func21, Tryd.ntmps21
  go_wp2_with fail
  refine HA.out.mono ?_
  rintro e w1 ⟨rfl, hw1⟩
  have B1 := hide2 (hw1.alloc hw1.size (.cells #[.int .u16 0, .int .u16 0] 58))
  clear hw1
  unfold hd
  have hws0 : ((ws 0 : Nat) : Int) = 0 := rfl
  go_wp2
  go_ret
  exact ⟨rfl, B1.out⟩
theorem against_form {v : Nat} {me : Int} {wr : Bool} (h : isW me = true) (hlt : v < 18446744073709551616) (hv : Lk.rt v = false) (w : World) :
    Calls Tryd.prog 21 #[.int .u64 (v : Int), .int .i64 me, .bool wr] w fun e w' => e = .returned (.slice none 0 0) ∧ Below w.heap.size w w' := by
  have HA := hide2 (asked_form h hlt hv w)
  go_enter Tryd.func21, Tryd.ntmps21
  go_wp2_with fail
  refine HA.out.mono ?_
  rintro e w1 ⟨rfl, hw1⟩
  have B1 := hide2 (hw1.alloc hw1.size (.cells #[.int .u16 0, .int .u16 0] 58))
  clear hw1
  unfold hd
  have hws0 : ((ws 0 : Nat) : Int) = 0 := rfl
  go_wp2
  go_ret
  exact ⟨rfl, B1.out⟩
theorem against_ok {v r x me : Nat} {wr : Bool} (hv : Lk.Wo v r x) (hm : me < 16) (w : World) (hT : Tab w) :
    Calls Tryd.prog 21 #[.int .u64 (v : Int), .int .i64 (me : Int), .bool wr] w fun e w' => ∃ u, e = .returned u ∧ Hr w' w.heap.size u (Lk.agn v me wr) ∧ Below w.heap.size w w' := by
  have HA := hide2 (asked_right (isW_nat hm) hv w)
  have HG := hide2 (fun w => against_any (wr := wr) hv.r hv.x hm w)
  have hinw : wo (if wr = true then ws x ||| r else ws x) (2 ^ me) = inw r x me wr := rfl
  rw [hinw] at HG
  have HI := hide2 (inw_rds (wr := wr) hv hm)
  have HL := hide2 (fun (w : World) hT hB hc => collect_any w.heap.size (inw r x me wr) (inw_lt hv.r hv.x) (w.alloc (.cells #[.int .u16 (inw r x me wr : Int)] 56)) hT hB hc)
  have HT := hide2 hT
  unfold hd at HA HG
  generalize inw r x me wr = a at *
  generalize ws x = b at *
  clear hinw hT
  go_enter Tryd.func21, Tryd.ntmps21
  go_wp2_with fail
  refine HA.out.mono ?_
  rintro e w1 ⟨rfl, hw1⟩
  have B1 := hide2 (hw1.alloc hw1.size (.cells #[.int .u16 (r : Int), .int .u16 (b : Int)] 58))
  have hz1 := hw1.size
  clear hw1 HA
  go_wp2_with fail
  refine (HG.out _).mono ?_
  rintro e w2 ⟨rfl, hw2⟩
  have B2 := hide2 (B1.out.trans (hw2.mono (by simp; omega)))
  clear hw2 B1
  go_wp2_with fail
  refine (all_any _ _).mono ?_
  rintro e w3 ⟨rfl, rfl⟩
  have bx := Boxed.new w2 56 (.int .u16 (a : Int))
  have B3 := hide2 (B2.out.alloc B2.out.size (.cells #[.int .u16 (a : Int)] 56))
  have HC := hide2 (HL.out w2 (HT.out.keep B3.out) bx.lt bx.cell)
  clear bx HL B2
  go_wp2_with fail
  refine HC.out.mono ?_
  rintro e w4 ⟨u, rfl, hr, hw4⟩
  have HR := hide2 hr
  have B4 := hide2 (B3.out.trans (hw4.mono B3.out.size))
  have HZ := hide2 B3.out.size
  clear hr hw4 HC
  go_wp2
  go_ret
  refine ⟨u, rfl, ?_, B4.out⟩
  rw [← HI.out]
  exact HR.out.low HZ.out

theorem Against_any {v : Nat} {me : Int} {wr : Bool} (hlt : v < 18446744073709551616) (w : World) (hT : Tab w) :
    Calls Tryd.prog 21 #[.int .u64 (v : Int), .int .i64 me, .bool wr] w fun e w' => ∃ u, e = .returned u ∧ Hr w' w.heap.size u (agV v me wr) ∧ Below w.heap.size w w' := by
  unfold agV
  by_cases h : isW me = false
  · rw [if_pos h]
    refine (against_none h w).mono ?_
    rintro e w' ⟨rfl, hb⟩
    exact ⟨_, rfl, Hr.nil _ _, hb⟩
  · rw [if_neg h]
    have h1 := notFalse h
    obtain ⟨e, hm⟩ := isW_toNat h1
    by_cases hr : Lk.rt v = false
    · rw [if_pos hr]
      refine (against_form h1 hlt hr w).mono ?_
      rintro e w' ⟨rfl, hb⟩
      exact ⟨_, rfl, Hr.nil _ _, hb⟩
    · rw [if_neg hr]
      have := against_ok (wr := wr) (Lk.rt_iff.1 (notFalse hr)) hm w hT
      rwa [e] at this

/-! LockAgrees. -/
theorem ag_len {v : Nat} {me : Int} : (agV v me false).length ≤ (agV v me true).length := by
  unfold agV
  split
  · exact Nat.le_refl _
  · split
    · exact Nat.le_refl _
    · exact Lk.agn_le _ _
/-- What of the answers agrees. -/
structure Agr (v : Nat) (me : Int) : Prop where
  bad : (rdV v me).2.2 ≠ 0 → (wrV v me).2.2 = (rdV v me).2.2 ∧ (rdV v me).2.1 = false ∧ (wrV v me).2.1 = false ∧ agV v me false = [] ∧ agV v me true = []
  good : (rdV v me).2.2 = 0 → (wrV v me).2.2 = 0 ∧ (rdV v me).2.1 = (agV v me false).isEmpty ∧ (wrV v me).2.1 = (agV v me true).isEmpty
theorem agr (v : Nat) (me : Int) : Agr v me := by
  by_cases h : isW me = false
  · constructor <;> simp [rdV, wrV, agV, h]
  · by_cases hr : Lk.rt v = false
    · constructor <;> simp [rdV, wrV, agV, h, hr]
    · have e : ∀ wr, agV v me wr = Lk.agn v me.toNat wr := fun wr => by unfold agV; rw [if_neg h, if_neg hr]
      have e1 : rdV v me = if Lk.agn v me.toNat false = [] then (Lk.rdd v me.toNat, true, 0) else (0, false, 0) := by unfold rdV; rw [if_neg h, if_neg hr]
      have e2 : wrV v me = if Lk.agn v me.toNat true = [] then (Lk.wtd v me.toNat, true, 0) else (0, false, 0) := by unfold wrV; rw [if_neg h, if_neg hr]
      constructor <;> (rw [e1, e2, e, e]; by_cases p : Lk.agn v me.toNat false = [] <;> by_cases q : Lk.agn v me.toNat true = [] <;> simp [p, q])
theorem empty_len (l : List Nat) : l.isEmpty = ((l.length : Int) == 0) := by
  cases l with
  | nil => rfl
  | cons a l => simp; omega

end
end Go.Proofs.YtbmgclnhooaniaaDoor
