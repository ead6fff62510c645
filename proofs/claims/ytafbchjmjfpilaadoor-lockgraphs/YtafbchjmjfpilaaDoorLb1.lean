/-
  Lb1: Who is in a set, one by one: (workers).all as what a range over a function goes over; slices.Collect of it.
-/
import Derived.Test.YtafbchjmjfpilaaDoorLa3
import Derived.RangeFuncNested
import Derived.RangeFuncBound
import Derived.RangeFuncCalls
import Derived.RangeFuncLeaves
import Derived.Shelf.Abstract
import Derived.Shelf.RegionOpen
import Derived.OwnWalkIn
import Derived.TacticsInMore
import Derived.LoopNIn
import Derived.LoopIn
import Derived.Maps.AppendAt
set_option linter.unusedVariables false
set_option linter.unusedSimpArgs false
namespace Go.Proofs.YtafbchjmjfpilaaDoor
open Go.RowKit Go.Shelf
attribute [local go_sem] Oper.semAt_some

def nv (n : Nat) : Value := .int .i64 (n : Int)

section
set_option maxHeartbeats 2000000
set_option maxRecDepth 100000
theorem all_in (F : Fence) (n : Nat) (hF : F.fn 23) (hro : F.round = none) (s : Int) (w : World) :
    CallsIn F n Tryd.prog 23 #[.int .u16 s] w fun e w' => e = .returned (.func (.func 27) #[] #[.pointer (some ⟨w.heap.size, 0, none⟩)]) ∧ w' = w.alloc (.cells #[.int .u16 s] 46) := by
  refine callsIn_of_wp Tryd.func23 rfl hF ?_ hro
  simp only [Tryd.ntmps23, List.size_toArray, List.length_cons, List.length_nil, Nat.reduceAdd, Nat.reduceSub, Array.replicate_succ, Array.replicate_zero, List.push_toArray, List.append_toArray, List.nil_append, List.cons_append]
  gi_wp2
  go_ret
  exact ⟨rfl, rfl⟩

theorem all1_in (n : Nat) (l B s : Nat) (hs : s < 65536) (J Jx : List Nat → World → Prop)
    (hY : ∀ pre x W, J pre W → pre.length < 16 → YieldAt Fence.wide (n - 1) Tryd.prog l #[nv x] W fun e W' =>
      (e = .returned (.bool true) ∧ J (pre ++ [x]) W' ∧ Below 1 W W') ∨ (e = .returned (.bool false) ∧ Jx (pre ++ [x]) W'))
    (W : World) (hT : Tab W) (hB : W.cell? ⟨B, 0, none⟩ = some (.int .u16 (s : Int))) (h0 : J [] W) :
    CallsIn Fence.wide n Tryd.prog 27 #[.func (.yield l) #[] #[], .pointer (some ⟨B, 0, none⟩)] W fun e W' => (∃ v, e = .returned v) ∧
      ((∃ ys, ys = Lk.rds s ∧ J ys W') ∨ (∃ pre, pre <+: Lk.rds s ∧ Jx pre W')) := by
  refine callsIn_of_wp Tryd.func27 rfl trivial ?_ rfl
  simp only [Tryd.ntmps27, List.size_toArray, List.length_cons, List.length_nil, Nat.reduceAdd, Nat.reduceSub, Array.replicate_succ, Array.replicate_zero, List.push_toArray, List.append_toArray, List.nil_append, List.cons_append]
  gi_wp2
  gi_loopw [3] (fun p wr => ∃ (x : Nat) (pre : List Nat), p = .int .u16 (x : Int) ∧ x < 65536 ∧ Lk.rds s = pre ++ Lk.rds x ∧ Hid (Tab wr) ∧ J pre wr)
    (fun p wr => match p with | .int _ i => i.toNat | _ => 0)
  case atStart =>
    exact ⟨s, [], rfl, hs, rfl, hide2 hT, h0⟩
  case round =>
    obtain ⟨x, pre, rfl, hx, hr, HT, hJs⟩ := hrel
    have HR := hide2 hr
    clear hr
    by_cases hx0 : x = 0
    · subst hx0
      gi_wp2
      go_end0
      refine ⟨⟨_, rfl⟩, .inl ⟨pre, ?_, hJs⟩⟩
      have := HR.out
      rw [rds_zero, List.append_nil] at this
      exact this.symm
    · obtain ⟨k, m, hl⟩ := low_ex hx hx0
      have hfirst := rds_first hl.lt hl.bit (fun j hj => hl.no hj)
      have hxne : ((x : Int) != 0) = true := by simpa using hx0
      have hand : bits BinOp.and IntKind.u16 (x : Int) ((x : Int) - 1) = ((x - 2 ^ k : Nat) : Int) := by
        have e : ((x : Int) - 1) = ((x - 1 : Nat) : Int) := by omega
        rw [e, and16 hx (by omega), low_out hl.eq]
      have hlt : x - 2 ^ k < x := by have := Nat.two_pow_pos k; have := Lk.bit_ge hl.bit; omega
      have hlen : pre.length < 16 := by
        have := rds_len s
        rw [HR.out, hfirst] at this
        simp at this; omega
      have HZ := hide2 (fun w hT => tz_any hl hx w hT)
      have HN : Hid (Lk.rds s = (pre ++ [k]) ++ Lk.rds (x - 2 ^ k)) := hide2 (by rw [HR.out, hfirst]; simp)
      have hx1 : (1 : Int) ≤ (x : Int) := by omega
      obtain ⟨fn, tmps, assign, body, hy, hR⟩ := hY pre k wr hJs hlen
      have HY := hide2 hR
      clear hfirst hl HR
      generalize x - 2 ^ k = x' at *
      gi_wp2
      refine ⟨trivial, fun q => (by cases q), ?_⟩
      refine (callsIn_wide.2 (HZ.out _ HT.out)).mono ?_
      rintro e w' ⟨rfl, rfl⟩
      simp only [nv] at hy
      gi_wp2
      refine ⟨fun q => (by cases q), ?_⟩
      refine HY.out.mono ?_
      rintro e W3 (⟨rfl, hJ3, hk3⟩ | ⟨rfl, hJx3⟩)
      · have HT3 := hide2 (HT.out.below hk3 (Nat.le_refl _))
        clear hk3
        gi_wp2
        go_roundw
        case rel => exact ⟨x', pre ++ [k], rfl, by omega, HN.out, HT3, hJ3⟩
        case measure => simp; omega
      · gi_wp2
        refine bodyPost_ret (results_none rfl _ _ _) rfl ?_
        exact ⟨⟨_, rfl⟩, .inr ⟨pre ++ [k], ⟨Lk.rds x', HN.out.symm⟩, hJx3⟩⟩

/-- What all hands back goes through the set, rising. -/
theorem all_stops (n : Nat) (B s : Nat) (hs : s < 65536) (w : World) (hT : Tab w) (hB : B < w.heap.size) (hc : w.cell? ⟨B, 0, none⟩ = some (.int .u16 (s : Int))) :
    SeqStopsK Fence.wide n Tryd.prog 27 #[.pointer (some ⟨B, 0, none⟩)] (fun x : Nat => #[nv x]) (Below 1) (fun ys => ys = Lk.rds s) (fun pre => pre <+: Lk.rds s) 16 w := fun l J Jx W hW _ _ hY h0 =>
  all1_in n l B s hs J Jx hY W (hT.keep hW) ((hW.cell (p := ⟨B, 0, none⟩) hB).trans hc) h0

theorem info3 : (Tryd.prog.info? 3).map (fun i => (i.zero, i.size, i.bytes)) = some (some (.int .i64 0), 1, 8) := by kernel_rfl

/-- A row of numbers that a call has made. -/
def Hr (w : World) (base : Nat) (v : Value) (l : List Nat) : Prop := w.ownsRow base 3 1 v l.length (l.map nv)

theorem all_any (s : Int) (w : World) : Calls Tryd.prog 23 #[.int .u16 s] w fun e w' => e = .returned (.func (.func 27) #[] #[.pointer (some ⟨w.heap.size, 0, none⟩)]) ∧ w' = w.alloc (.cells #[.int .u16 s] 46) :=
  callsIn_wide.1 (all_in Fence.wide 3 trivial rfl s w)

theorem Hr.form {w : World} {base : Nat} {v : Value} {l : List Nat} (h : Hr w base v l) : ∃ ao cap, v = .slice ao l.length cap ∧ l.length ≤ cap := by
  rcases h.2 with ⟨rfl, h0⟩ | ⟨g, cap, cur, rfl, _, _, hc, _⟩
  · exact ⟨none, 0, by rw [h0], by omega⟩
  · exact ⟨_, cap, rfl, hc⟩
theorem Hr.cell {w : World} {base : Nat} {ao : Option Addr} {cap : Nat} {l : List Nat} (h : Hr w base (.slice ao l.length cap) l) {i : Nat} (hi : i < l.length) : ∃ g, ao = some ⟨g, 0, none⟩ ∧ base ≤ g ∧ g < w.heap.size ∧ ∀ i, i < l.length → w.cell? ⟨g, i, none⟩ = some (nv (l.getD i 0)) := by
  rcases h.2 with ⟨e, h0⟩ | ⟨g, cap', cur, e, hb, hg, _, _, hcs, ht⟩
  · omega
  · cases e
    refine ⟨g, rfl, hb, (Array.getElem?_eq_some_iff.1 hg).1, fun j hj => ?_⟩
    rw [Go.Joins.cell_of_block hg j]
    have : cur[j]? = (cur.toList.take (l.length * 1))[j]? := by
      rw [List.getElem?_take, if_pos (by omega), Array.getElem?_toList]
    rw [this, ht, List.getElem?_map, List.getElem?_eq_getElem hj]
    simp [List.getD, List.getElem?_eq_getElem hj]
theorem Hr.low {w : World} {base base' : Nat} {v : Value} {l : List Nat} (h : Hr w base v l) (hb : base' ≤ base) : Hr w base' v l := by
  refine ⟨h.1, ?_⟩
  rcases h.2 with q | ⟨g, cap, cur, e, hbs, r⟩
  · exact .inl q
  · exact .inr ⟨g, cap, cur, e, Nat.le_trans hb hbs, r⟩
theorem Hr.nil (w : World) (base : Nat) : Hr w base (.slice none 0 0) [] := World.ownsRow_nil _ _ _ _
theorem Hr.keep {w w' : World} {base : Nat} {v : Value} {l : List Nat} (h : Hr w base v l) (hb : Below w.heap.size w w') : Hr w' base v l := by
  refine ⟨h.1, ?_⟩
  rcases h.2 with q | ⟨g, cap, cur, e, hbs, hg, r⟩
  · exact .inl q
  · exact .inr ⟨g, cap, cur, e, hbs, (hb.block g (Array.getElem?_eq_some_iff.1 hg).1).trans hg, r⟩

/-- Against, told in one way. -/
def agV (v : Nat) (me : Int) (wr : Bool) : List Nat := if isW me = false then [] else if Lk.rt v = false then [] else Lk.agn v me.toNat wr
/-! LockAgrees. -/
theorem ag_len {v : Nat} {me : Int} : (agV v me false).length ≤ (agV v me true).length := by
  unfold agV
  split
  · exact Nat.le_refl _
  · split
    · exact Nat.le_refl _
    · exact Lk.agn_le _ _
/-- What of the answers agrees. -/
structure Agr (v : Nat) (me : Int) : Prop where
  bad : (rdV v me).2.2 ≠ 0 → (wrV v me).2.2 = (rdV v me).2.2 ∧ (rdV v me).2.1 = false ∧ (wrV v me).2.1 = false ∧ agV v me false = [] ∧ agV v me true = []
  good : (rdV v me).2.2 = 0 → (wrV v me).2.2 = 0 ∧ (rdV v me).2.1 = (agV v me false).isEmpty ∧ (wrV v me).2.1 = (agV v me true).isEmpty
theorem agr (v : Nat) (me : Int) : Agr v me := by
  by_cases h : isW me = false
  · constructor <;> simp [rdV, wrV, agV, h]
  · by_cases hr : Lk.rt v = false
    · constructor <;> simp [rdV, wrV, agV, h, hr]
    · have e : ∀ wr, agV v me wr = Lk.agn v me.toNat wr := fun wr => by unfold agV; rw [if_neg h, if_neg hr]
      have e1 : rdV v me = if Lk.agn v me.toNat false = [] then (Lk.rdd v me.toNat, true, 0) else (0, false, 0) := by unfold rdV; rw [if_neg h, if_neg hr]
      have e2 : wrV v me = if Lk.agn v me.toNat true = [] then (Lk.wtd v me.toNat, true, 0) else (0, false, 0) := by unfold wrV; rw [if_neg h, if_neg hr]
      constructor <;> (rw [e1, e2, e, e]; by_cases p : Lk.agn v me.toNat false = [] <;> by_cases q : Lk.agn v me.toNat true = [] <;> simp [p, q])
theorem empty_len (l : List Nat) : l.isEmpty = ((l.length : Int) == 0) := by
  cases l with
  | nil => rfl
  | cons a l => simp; omega

end
end Go.Proofs.YtafbchjmjfpilaaDoor
