/-
  XmX: The document's model in memory; what it has written, what is there.
-/
import Derived.Test.YtheidhkmmihjlaaDo21
import Derived.Laws.ResultCell
import Derived.Test.YtheidhkmmihjlaaDo8
import Derived.BigQuiet
import Derived.Deep.QuietTactic
import Derived.Deep.RegionWith
set_option linter.unusedVariables false
set_option linter.unusedSimpArgs false
namespace Go.Proofs.Ytheidhkmmihjlaa
open Go.RowKit Go.Shelf Go.Maps
open ML (Ro RS Rr Sv Srt nless fstOf od nl_irr nl_tr nl_tot)
attribute [local go_sem] Oper.semAt_some

theorem results_cr {P : Program} {fn : Func} {p u : Tmp} {ty : TypeId} (h : fn.results = #[.cell p ty, .tmp u]) (tmps : Array Value) (w : World) (g : Nat) (t : TypeId) (cs : Array Value) (fr : Nat × Nat) (d : TypeDesc)
    (hp : tmps.getD p undef = .pointer (some ⟨g, 0, none⟩)) (hg : w.heap[g]? = some (.cells cs t fr))
    (hu : P.underlying ty = some d) (hd : (match d with | .struct _ | .array _ _ => true | _ => false) = true) (hi : (P.info? ty).map (·.size) = some cs.size) :
    (results fn tmps).run P w = .ok (.tuple #[.agg cs, tmps.getD u undef]) w := by
  rw [results_cell_tmp h, hp]
  simp [asAddr, Result.andThen, run_loadVar_row w g t ty cs fr d hg hu hd hi]
/-- The document's model in memory. -/
structure Rm (w : World) (Y : Nat) (S : Ms) (ao : Option Addr) (cap : Nat) (ao2 : Option Addr) (cap2 : Nat) : Prop where
  blk : w.heap[Y]? = some (rmObj (.slice ao S.L.length cap) S.t S.ws.isSome (.slice ao2 (S.ws.getD []).length cap2))
  rs : RS w ao S.L.length cap S.L
  ws : WS w ao2 (S.ws.getD []).length cap2 (S.ws.getD [])
  n1 : ao = none → cap = 0
  n2 : ao2 = none → cap2 = 0
  d1 : ∀ j ∈ Kr ao, j ≠ Y
  d2 : ∀ j ∈ Kr ao2, j ≠ Y
  l1 : ∀ j ∈ Kr ao, j < w.heap.size
  l2 : ∀ j ∈ Kr ao2, j < w.heap.size
def Rx (w : World) (Y : Nat) (S : Ms) : Prop := ∃ ao cap ao2 cap2, Rm w Y S ao cap ao2 cap2
section
variable {w w' : World} {Y : Nat} {S : Ms} {ao ao2 : Option Addr} {cap cap2 : Nat}
theorem Rm.lt (h : Rm w Y S ao cap ao2 cap2) : Y < w.heap.size := (Array.getElem?_eq_some_iff.1 h.blk).1
theorem Rm.below (h : Rm w Y S ao cap ao2 cap2) (hb : Below w.heap.size w w') : Rm w' Y S ao cap ao2 cap2 :=
  ⟨(hb.block Y h.lt).trans h.blk, h.rs.below hb (fun b off e hlt => hlt), ws_below h.ws hb, h.n1, h.n2, h.d1, h.d2, fun j hj => Nat.lt_of_lt_of_le (h.l1 j hj) hb.size, fun j hj => Nat.lt_of_lt_of_le (h.l2 j hj) hb.size⟩
theorem Rm.cells (h : Rm w Y S ao cap ao2 cap2) : w.cell? ⟨Y, 0, none⟩ = some (.slice ao S.L.length cap) ∧ w.cell? ⟨Y, 1, none⟩ = some (.int .i64 S.t) ∧ w.cell? ⟨Y, 2, none⟩ = some (.bool S.ws.isSome) ∧ w.cell? ⟨Y, 3, none⟩ = some (.slice ao2 (S.ws.getD []).length cap2) := by
  refine ⟨?_, ?_, ?_, ?_⟩ <;> (rw [Go.Joins.cell_of_block h.blk]; rfl)
theorem Rm.free (h : Rm w Y S ao cap ao2 cap2) (i : Nat) : w.frozen? ⟨Y, i, none⟩ = false := Go.Joins.unfrozen_of_block h.blk i
theorem Rx.below (h : Rx w Y S) (hb : Below w.heap.size w w') : Rx w' Y S := by obtain ⟨a, b, c, d, h⟩ := h; exact ⟨a, b, c, d, h.below hb⟩
theorem Rm.x (h : Rm w Y S ao cap ao2 cap2) : Rx w Y S := ⟨_, _, _, _, h⟩
theorem rr_form {B : Nat} {v : Value} {l : List Ro} (h : Rr w B v l) : ∃ ao cap, v = .slice ao l.length cap ∧ RS w ao l.length cap l ∧ (ao = none → cap = 0) ∧ (∀ j ∈ Kr ao, B ≤ j ∧ j < w.heap.size) := by
  obtain ⟨ao, cap, rfl, hs⟩ := h.seq
  refine ⟨ao, cap, rfl, hs, fun e => ?_, fun j hj => ?_⟩
  · subst e
    rcases h.2 with ⟨q, _⟩ | ⟨g, c, cur, q, _⟩
    · injection q
    · injection q with q1; cases q1
  · rcases h.2 with ⟨q, _⟩ | ⟨g, c, cur, q, hB, hh, _⟩
    · injection q with q1 _ _; rw [q1] at hj; cases hj
    · injection q with q1 _ _; rw [q1] at hj; simp [Kr] at hj; rw [hj]; exact ⟨hB, (Array.getElem?_eq_some_iff.1 hh).1⟩
theorem wo_form {B : Nat} {v : Value} {l : List Wr} (h : Wo w B v l) : ∃ ao cap, v = .slice ao l.length cap ∧ WS w ao l.length cap l ∧ (ao = none → cap = 0) ∧ (∀ j ∈ Kr ao, B ≤ j ∧ j < w.heap.size) := by
  obtain ⟨ao, cap, rfl, hs⟩ := h.seq
  refine ⟨ao, cap, rfl, hs, fun e => ?_, fun j hj => ?_⟩
  · subst e
    rcases h.2 with ⟨q, _⟩ | ⟨g, c, cur, q, _⟩
    · injection q
    · injection q with q1; cases q1
  · rcases h.2 with ⟨q, _⟩ | ⟨g, c, cur, q, hB, hh, _⟩
    · injection q with q1 _ _; rw [q1] at hj; cases hj
    · injection q with q1 _ _; rw [q1] at hj; simp [Kr] at hj; rw [hj]; exact ⟨hB, (Array.getElem?_eq_some_iff.1 hh).1⟩
theorem rs_chg {s : Nat → Prop} {ln cp : Nat} {L : List Ro} (h : RS w ao ln cp L) (hc : Chg s w w') (hd : ∀ j ∈ Kr ao, ¬ s j) : RS w' ao ln cp L := by
  refine ⟨h.1, h.2.1, h.2.2.1, fun hl => ?_⟩
  obtain ⟨g, off, rfl, hlt, hc2⟩ := h.2.2.2 hl
  exact ⟨g, off, rfl, Nat.lt_of_lt_of_le hlt hc.size, fun i r hi u hu x => (World.cell?_of_block (hc.2 g hlt (hd g (by simp [Kr])))).trans (hc2 i r hi u hu x)⟩
/-- What a call leaves of the document's model: the rows' and the writes' blocks are the elder ones or new ones. -/
def Rn (w w' : World) (Y : Nat) (ao ao2 : Option Addr) (S' : Ms) : Prop := ∃ a c a2 c2, Rm w' Y S' a c a2 c2 ∧ (∀ j ∈ Kr a, j ∈ Kr ao ∨ w.heap.size ≤ j) ∧ (∀ j ∈ Kr a2, j ∈ Kr ao2 ∨ w.heap.size ≤ j)
/-- The rows are put anew. -/
theorem Rm.setL (h : Rm w Y S ao cap ao2 cap2) {w3 : World} {v : Value} {L' : List Ro} (hb : Below w.heap.size w w3) (hv : Rr w3 w.heap.size v L') :
    Rn w (w3.setCell ⟨Y, 0, none⟩ v) Y ao ao2 ⟨L', S.t, S.ws⟩ ∧ Chg (fun j => j = Y) w (w3.setCell ⟨Y, 0, none⟩ v) := by
  obtain ⟨a, c, rfl, hrs, hn, hK⟩ := rr_form hv
  have hc := cell_chg w3 Y 0 (.slice a L'.length c)
  have h3 := h.below hb
  have hlt := h.lt
  have hsz := hc.size
  exact ⟨⟨a, c, ao2, cap2, ⟨(Go.Joins.block_setCell h3.blk _).trans rfl, rs_chg hrs hc (fun j hj q => by have := hK j hj; omega), ws_chg h3.ws hc (fun j hj q => h.d2 j hj q), hn, h.n2, fun j hj => by have := hK j hj; omega, h.d2, fun j hj => by have := hK j hj; omega, fun j hj => by have := h3.l2 j hj; omega⟩, fun j hj => .inr (hK j hj).1, fun j hj => .inl hj⟩, (Chg.below hb).trans hc (fun j _ q => q)⟩
end
section
set_option maxHeartbeats 1000000
set_option maxRecDepth 100000
variable {w : World} {Y : Nat} {S : Ms}
def wrz : Wr := ⟨⟨#[]⟩, ⟨#[]⟩, false⟩
theorem wOf_at {ws : List Wr} {k : ByteArray} {j : Nat} {x : Wr} (h1 : ∀ y ∈ ws.take j, y.key ≠ k) (h2 : ws[j]? = some x) (h3 : x.key = k) : wOf ws k = some x := by
  obtain ⟨hlt, hx⟩ := List.getElem?_eq_some_iff.1 h2
  have e : ws = ws.take j ++ x :: ws.drop (j + 1) := by rw [← hx, ← List.drop_eq_getElem_cons hlt, List.take_append_drop]
  unfold wOf
  rw [e, List.find?_append]
  have hn : (ws.take j).find? (fun w => decide (w.key = k)) = none := by rw [List.find?_eq_none]; intro y hy; simpa using h1 y hy
  rw [hn]
  simp [h3]
theorem rwritten_any (h : Rx w Y S) (key : ByteArray) : Calls Try.prog 61 #[ptr Y, .string key] w fun e w' => e = .returned (.tuple #[((wOf (S.ws.getD []) key).getD wrz).w, .bool (wOf (S.ws.getD []) key).isSome]) ∧ Below w.heap.size w w' := by
  obtain ⟨ao, cap, ao2, cap2, h⟩ := h
  have hmx : ((S.ws.getD []).length : Int) ≤ 9223372036854775807 := by have := h.ws.2.1; have := h.ws.2.2.1; unfold maxLen at this; omega
  have H : Hid (∀ u, Below w.heap.size w u → Rm u Y S ao cap ao2 cap2) := xhide (fun u hu => h.below hu)
  have hlY := h.lt
  clear h
  generalize hws : S.ws.getD [] = ws at *
  have HWS := xhide hws
  clear hws
  have HS0 : Hid (Below w.heap.size w (w.alloc (wrO wrz)) ∧ (w.alloc (wrO wrz)).heap[w.heap.size]? = some (wrO wrz)) := xhide ⟨ML.below1 _ _, heap_alloc_new _ _⟩
  go_enter Try.func61, Try.ntmps61
  go_wp2_with fail
  go_loopw [6] (fun i wr => ∃ j : Nat, j ≤ ws.length ∧ i = .int .i64 (j : Nat) ∧ Hid (∀ y ∈ ws.take j, y.key ≠ key) ∧ Hid (Below w.heap.size w wr ∧ wr.heap[w.heap.size]? = some (wrO wrz))) (fun i _ => ws.length - (intOf i).toNat)
  case atStart => exact ⟨0, by omega, rfl, xhide (by simp), HS0⟩
  case round =>
    obtain ⟨j, hj, rfl, HN, HB⟩ := hrel
    clear HS0
    obtain ⟨hb, hblk⟩ := HB.out
    have hm := H.out wr hb
    obtain ⟨y0, y1, y2, y3⟩ := hm.cells
    rw [HWS.out] at y3
    have hY := hm.lt
    have hlw : w.heap.size < wr.heap.size := (Array.getElem?_eq_some_iff.1 hblk).1
    have z0 : wr.cell? ⟨w.heap.size, 0, none⟩ = some (.string ⟨#[]⟩) := by rw [Go.Joins.cell_of_block hblk]; rfl
    have z1 : wr.cell? ⟨w.heap.size, 1, none⟩ = some (.string ⟨#[]⟩) := by rw [Go.Joins.cell_of_block hblk]; rfl
    have z2 : wr.cell? ⟨w.heap.size, 2, none⟩ = some (.bool false) := by rw [Go.Joins.cell_of_block hblk]; rfl
    have t0 : wr.frozen? ⟨w.heap.size, 0, none⟩ = false := Go.Joins.unfrozen_of_block hblk 0
    have t1 : wr.frozen? ⟨w.heap.size, 1, none⟩ = false := Go.Joins.unfrozen_of_block hblk 1
    have t2 : wr.frozen? ⟨w.heap.size, 2, none⟩ = false := Go.Joins.unfrozen_of_block hblk 2
    have hws := hm.ws
    rw [HWS.out] at hws
    have HBK := xhide hblk
    have HBW := xhide hb
    clear hm hblk hb
    by_cases hlt : j < ws.length
    · obtain ⟨x, hx⟩ := some_at (l := ws) rfl hlt
      obtain ⟨g, off, rfl, hgl, hc⟩ := hws.2.2.2 (by omega)
      have c0 := hc j x hx 0 _ rfl
      have c1 := hc j x hx 1 _ rfl
      have c2 := hc j x hx 2 _ rfl
      rw [Nat.add_zero] at c0
      have d1 : (j : Int) < (ws.length : Int) := by omega
      have te := ML.str_test x.key key
      by_cases hk : x.key = key
      · have HF := xhide (wOf_at HN.out hx hk)
        rw [show decide (x.key = key) = true by simpa using hk] at te
        clear hc hws hx hk
        go_wp2_with fail
        refine bodyPost_ret (v := .tuple #[x.w, .bool true]) (results_cr (p := 4) (u := 5) (ty := 61) rfl _ _ w.heap.size 61 _ (0, 0) _ rfl (((Go.Joins.block_setCell (Go.Joins.block_setCell (Go.Joins.block_setCell HBK.out _) _) _)).trans rfl) Try.underlying61 rfl (by kernel_rfl)) rfl ?_
        refine ⟨by rw [HF.out]; rfl, ?_⟩
        exact ((HBW.out.setCell (p := ⟨w.heap.size, 0, none⟩) (Nat.le_refl _) _).setCell (p := ⟨w.heap.size, 1, none⟩) (Nat.le_refl _) _).setCell (p := ⟨w.heap.size, 2, none⟩) (Nat.le_refl _) _
      · have NX : Hid (∀ y ∈ ws.take (j + 1), y.key ≠ key) := xhide (fun y hy => by
          rw [ML.take_snoc hx] at hy
          rcases List.mem_append.1 hy with q | q
          · exact HN.out y q
          · simp at q; rw [q]; exact hk)
        rw [show decide (x.key = key) = false by simpa using hk] at te
        clear hc hws hx hk
        go_wp2_with fail
        go_roundw
        case rel => exact ⟨j + 1, by omega, by go_num, NX, xhide ⟨HBW.out, HBK.out⟩⟩
        case measure => simp [intOf]; omega
    · obtain rfl : j = ws.length := by omega
      have d1 : ¬ (ws.length : Int) < (ws.length : Int) := by omega
      have hN := HN.out
      rw [List.take_length] at hN
      have HF := xhide (wOf_none.2 hN)
      clear hN hws
      go_wp2_with fail
      refine bodyPost_ret (v := .tuple #[wrz.w, .bool false]) (results_cr (p := 4) (u := 5) (ty := 61) rfl _ _ w.heap.size 61 _ (0, 0) _ rfl (((Go.Joins.block_setCell (Go.Joins.block_setCell (Go.Joins.block_setCell HBK.out _) _) _)).trans rfl) Try.underlying61 rfl (by kernel_rfl)) rfl ?_
      refine ⟨by rw [HF.out]; rfl, ?_⟩
      exact ((HBW.out.setCell (p := ⟨w.heap.size, 0, none⟩) (Nat.le_refl _) _).setCell (p := ⟨w.heap.size, 1, none⟩) (Nat.le_refl _) _).setCell (p := ⟨w.heap.size, 2, none⟩) (Nat.le_refl _) _
end
end Go.Proofs.Ytheidhkmmihjlaa

/-
  XmZ: The document's lay: a write stands. (Printed by gen_xmz.py.)
-/
set_option linter.unusedVariables false
set_option linter.unusedSimpArgs false
namespace Go.Proofs.Ytheidhkmmihjlaa
open Go.RowKit
open ML (Ro RS Rr Sv nless hide2 rapp sv_one rr_nil take_snoc while_at below1 str_test)
attribute [local go_sem] Oper.semAt_some

theorem drop_at2 {l : List Ro} {k : Nat} {p : Ro} (h : l[k]? = some p) : l.drop k = p :: l.drop (k + 1) := by
  obtain ⟨h1, h2⟩ := List.getElem?_eq_some_iff.1 h
  rw [List.drop_eq_getElem_cons h1, h2]
theorem doneD_at {l : List Ro} {x : Wr} {t : Int} {k : Nat} (h1 : ∀ y ∈ l.take k, nless y.k x.key = true) (h2 : ∀ y, l[k]? = some y → nless y.k x.key = false) : doneD l x t = l.take k ++ (newR x t ++ cutK x.key (l.drop k)) := by
  obtain ⟨e1, e2⟩ := while_at (fun p : Ro => nless p.k x.key) l k h1 h2
  unfold doneD
  rw [e1, e2]
theorem cutK_yes {l : List Ro} {s : ByteArray} {k : Nat} {p : Ro} (h : l[k]? = some p) (e : p.k = s) : cutK s (l.drop k) = l.drop (k + 1) := by
  rw [drop_at2 h, cutK_cons, if_pos e]
theorem cutK_no {l : List Ro} {s : ByteArray} {k : Nat} {p : Ro} (h : l[k]? = some p) (e : ¬ p.k = s) : cutK s (l.drop k) = l.drop k := by
  rw [drop_at2 h, cutK_cons, if_neg e]
theorem cutK_end {l : List Ro} {s : ByteArray} {k : Nat} (h : l.length ≤ k) : cutK s (l.drop k) = l.drop k := by
  rw [List.drop_eq_nil_of_le h]; rfl
section
set_option maxHeartbeats 8000000
set_option maxRecDepth 100000
variable {w : World} {Y : Nat} {ao ao2 : Option Addr} {cap cap2 : Nat} {l : List Ro} {tt : Int} {ws : Option (List Wr)}
theorem rlay_any (h : Rm w Y ⟨l, tt, ws⟩ ao cap ao2 cap2) (hl : l.length ≤ 10000000) (x : Wr) (t : Int) :
    Calls Try.prog 33 #[ptr Y, x.w, .int .i64 t] w fun e w' => e = .returned (.tuple #[]) ∧ Rn w w' Y ao ao2 ⟨doneD l x t, tt, ws⟩ ∧ Chg (fun j => j = Y) w w' := by
  have hs : RS w ao l.length cap l := h.rs
  have hcap := hs.2.1
  have hcm := hs.2.2.1
  unfold maxLen at hcm
  have hn : ao = none → cap = 0 := h.n1
  have H := xhide h
  obtain ⟨W0, hW0⟩ : ∃ W0, W0 = w.alloc (.cells #[.string x.key, .string x.val, .bool x.gone] 61) := ⟨_, rfl⟩
  have hb : W0.heap[w.heap.size]? = some (.cells #[.string x.key, .string x.val, .bool x.gone] 61 (0, 0)) := by rw [hW0]; exact heap_alloc_new _ _
  have q0 : W0.cell? ⟨w.heap.size, 0, none⟩ = some (.string x.key) := by rw [Go.Joins.cell_of_block hb]; rfl
  have q1 : W0.cell? ⟨w.heap.size, 1, none⟩ = some (.string x.val) := by rw [Go.Joins.cell_of_block hb]; rfl
  have q2 : W0.cell? ⟨w.heap.size, 2, none⟩ = some (.bool x.gone) := by rw [Go.Joins.cell_of_block hb]; rfl
  have B0 : Below w.heap.size w W0 := by rw [hW0]; exact below1 w _
  have hsz0 : W0.heap.size = w.heap.size + 1 := by rw [hW0]; simp
  have hs0 : RS W0 ao l.length cap l := hs.below B0 (fun b off e hlt => hlt)
  have HS0 := hide2 hs0
  have HSV := hide2 (ML.RS.sv hs0 hn)
  have HM0 : Hid (∀ u, Below W0.heap.size W0 u → u.cell? ⟨Y, 0, none⟩ = some (.slice ao l.length cap) ∧ u.frozen? ⟨Y, 0, none⟩ = false ∧ Y < u.heap.size) := xhide (fun u hu => by
    have h1 := (h.below B0).below hu
    exact ⟨h1.cells.1, h1.free 0, h1.lt⟩)
  have HB0 := hide2 B0
  have hQ : Hid (W0.cell? ⟨w.heap.size, 0, none⟩ = some (.string x.key) ∧ W0.cell? ⟨w.heap.size, 1, none⟩ = some (.string x.val) ∧ W0.cell? ⟨w.heap.size, 2, none⟩ = some (.bool x.gone)) := hide2 ⟨q0, q1, q2⟩
  clear h hs hs0 hn B0 hb
  go_enter Try.func33, Try.ntmps33
  go_wp2_with fail
  rw [← hW0]
  clear hW0 q0 q1 q2
  go_wp2_with fail
  go_loopw [6, 7] (fun v i wr => ∃ k : Nat, k ≤ l.length ∧ i = .int .i64 (k : Nat) ∧ Hid (∀ y ∈ l.take k, nless y.k x.key = true) ∧ Hid (Rr wr W0.heap.size v (l.take k)) ∧ Hid (Below W0.heap.size W0 wr)) (fun _ i _ => l.length - (intOf i).toNat)
  case atStart => exact ⟨0, by omega, rfl, hide2 (fun y hy => by simp at hy), hide2 (rr_nil _ _), hide2 (Below.refl _ _)⟩
  case round =>
    obtain ⟨k, hk, rfl, HALL, HO, HB⟩ := hrel
    have hsz := HB.out.size
    obtain ⟨yL, yF, hYl⟩ := HM0.out wr HB.out
    have htl : (l.take k).length = k := by rw [List.length_take, Nat.min_eq_left hk]
    have q0 := (HB.out.cell (p := ⟨w.heap.size, 0, none⟩) (by show w.heap.size < _; omega)).trans hQ.out.1
    have q1 := (HB.out.cell (p := ⟨w.heap.size, 1, none⟩) (by show w.heap.size < _; omega)).trans hQ.out.2.1
    have q2 := (HB.out.cell (p := ⟨w.heap.size, 2, none⟩) (by show w.heap.size < _; omega)).trans hQ.out.2.2
    by_cases hgo : ∃ p, l[k]? = some p ∧ nless p.k x.key = true
    · obtain ⟨p, hp, hps⟩ := hgo
      have hkl := (List.getElem?_eq_some_iff.1 hp).1
      obtain ⟨g, off, rfl, hg, hc⟩ := ML.RS.at HS0.out (by omega)
      have c0 := (HB.out.cell (p := ⟨g, off + k * 3, none⟩) hg).trans (hc k p hp).1
      have c1 := (HB.out.cell (p := ⟨g, off + k * 3 + 1, none⟩) hg).trans (hc k p hp).2.1
      have c2 := (HB.out.cell (p := ⟨g, off + k * 3 + 2, none⟩) hg).trans (hc k p hp).2.2
      have HTS := hide2 (take_snoc hp)
      have hc2 : (k : Int) < (l.length : Int) := by omega
      have t1 : Op.bytesLess p.k.toList x.key.toList = true := hps
      have HA2 : Hid (∀ y ∈ l.take (k + 1), nless y.k x.key = true) := hide2 (fun y hy => by
        rw [HTS.out] at hy
        rcases List.mem_append.1 hy with hy | hy
        · exact HALL.out y hy
        · simp at hy; subst hy; exact hps)
      clear hc HALL hp hps
      go_wp2_with fail
      go_quiet (fail)
      go_wp2_with (at_builtin; refine Hid.out ?_)
      obtain ⟨v', w2, hrun, hown, hB2, hs2, _⟩ := rapp (w := (wr.drewN nq).alloc (.cells #[.string p.k, .string p.v, .int .i64 p.t] 45)) (World.ownsRow.alloc HO.out _) (by simp; omega) (sv_one (wr.drewN nq) p) (by rw [htl]; simp; omega)
      have HO2 : Hid (Rr w2 W0.heap.size v' (l.take (k + 1))) := hide2 (by rw [HTS.out]; exact hown)
      have HBW2 : Hid (Below W0.heap.size W0 w2) := hide2 (hB2 _ _ (Nat.le_refl _) ((below_drewN HB.out nq).alloc hsz _))
      have HRUN := hide2 hrun
      clear hrun hown hB2 HO HTS c0 c1 c2
      refine hide2 ?_
      refine Lib.wpList_append_run _ rfl _ _ _ _ rfl _ _ rfl rfl v' w2 HRUN.out ?_
      go_frame
      go_wp2_with fail
      go_roundw
      case rel => exact ⟨k + 1, by omega, by go_num, HA2, HO2, HBW2⟩
      case measure => simp [intOf]; omega
    · have hstop : ∀ y, l[k]? = some y → nless y.k x.key = false := fun y hy => by
        cases e : nless y.k x.key with
        | false => rfl
        | true => exact absurd ⟨y, hy, e⟩ hgo
      have HD := hide2 (doneD_at (t := t) HALL.out hstop)
      have hdl : ∀ j, (l.drop j).length ≤ 10000000 := fun j => by rw [List.length_drop]; omega
      clear HALL hgo
      by_cases hkl : k < l.length
      · obtain ⟨p, hp⟩ := some_at (l := l) (i := k) (n := l.length) rfl hkl
        obtain ⟨g, off, rfl, hg, hc⟩ := ML.RS.at HS0.out (by omega)
        have c0 := (HB.out.cell (p := ⟨g, off + k * 3, none⟩) hg).trans (hc k p hp).1
        have hc2 : (k : Int) < (l.length : Int) := by omega
        have t1 : Op.bytesLess p.k.toList x.key.toList = false := hstop p hp
        clear hc hstop
        by_cases hpe : p.k = x.key
        · have t2 : (p.k.toList == x.key.toList) = true := by rw [str_test]; simpa using hpe
          cases hg2 : x.gone with
          | true =>
            have HNEW : Hid (newR x t = []) := hide2 (by unfold newR; rw [hg2]; rfl)
            rw [hg2] at q2
            clear hg2
            obtain ⟨xv, hsl, hsv⟩ := HSV.out.from hcap (k + 1) (by omega)
            have HSL := hide2 hsl
            have HSVX := hide2 hsv
            clear hsl hsv
            have HFIN : Hid (doneD l x t = (l.take k ++ newR x t) ++ l.drop (k + 1)) := hide2 (by rw [HD.out, cutK_yes hp hpe, List.append_assoc])
            clear hp hpe
            clear HD
            go_wp2_with fail
            go_quiet (fail)
            revert nq; intro n1
            have hsl : ∀ u : World, (Instr.slice 22 (.slice (some ⟨g, off, none⟩) l.length cap) (some (.int .i64 ((k : Int) + 1))) none none).run Try.prog u = .ok xv u := fun u => HSL.out u
            go_wp2_with fail
            go_quiet (fail)
            go_wp2_with (at_builtin; refine Hid.out ?_)
            have hb2 : Below W0.heap.size W0 (wr.drewN (n1 + nq)) := below_drewN HB.out (n1 + nq)
            have hown : Rr (wr.drewN (n1 + nq)) W0.heap.size u6 (l.take k ++ newR x t) := by rw [HNEW.out, List.append_nil]; exact HO.out
            obtain ⟨v3, w3, hrun3, hown3, hB3, hs4, _⟩ := rapp hown hb2.size (HSVX.out.keep hb2) (by rw [List.length_append, htl, HNEW.out]; have := hdl (k + 1); simp only [List.length_nil]; omega)
            have HO3 : Hid (Rr w3 w.heap.size v3 (doneD l x t)) := hide2 (by rw [HFIN.out]; exact Go.Joins.ownsRow_le hown3 (by omega))
            have HBW3 : Hid (Below w.heap.size w w3) := hide2 (HB0.out.trans ((hB3 _ _ (Nat.le_refl _) hb2).mono (by omega)))
            have HB3W := xhide (hB3 _ _ (Nat.le_refl _) hb2)
            have FIN := xhide (H.out.setL HBW3.out HO3.out)
            have h30 := HM0.out w3 HB3W.out
            obtain ⟨z3, z4, z5⟩ := h30
            obtain ⟨av, cv, ev, _⟩ := HO3.out.seq
            subst ev
            have HRUN3 := hide2 hrun3
            clear hown HO hrun3 hown3 hB3 HFIN
            refine hide2 ?_
            refine Lib.wpList_append_run _ rfl _ _ _ _ rfl _ _ rfl rfl _ w3 HRUN3.out ?_
            go_frame
            go_wp2
            go_end0
            exact ⟨rfl, FIN.out⟩
          | false =>
            have HNEW : Hid (newR x t = [⟨x.key, x.val, t⟩]) := hide2 (by unfold newR; rw [hg2]; rfl)
            rw [hg2] at q2
            clear hg2
            obtain ⟨xv, hsl, hsv⟩ := HSV.out.from hcap (k + 1) (by omega)
            have HSL := hide2 hsl
            have HSVX := hide2 hsv
            clear hsl hsv
            have HFIN : Hid (doneD l x t = (l.take k ++ newR x t) ++ l.drop (k + 1)) := hide2 (by rw [HD.out, cutK_yes hp hpe, List.append_assoc])
            clear hp hpe
            clear HD
            go_wp2_with fail
            go_quiet (fail)
            revert nq; intro n1
            go_wp2_with fail
            go_quiet (fail)
            go_wp2_with (at_builtin; refine Hid.out ?_)
            have hb2 : Below W0.heap.size W0 (wr.drewN (n1 + nq)) := below_drewN HB.out (n1 + nq)
            obtain ⟨v4, w2, hrun, hown0, hB2, hs2, _⟩ := rapp (w := (wr.drewN (n1 + nq)).alloc (.cells #[.string x.key, .string x.val, .int .i64 t] 45)) (World.ownsRow.alloc HO.out _) (by simp; omega) (sv_one (wr.drewN (n1 + nq)) ⟨x.key, x.val, t⟩) (by rw [htl]; simp; omega)
            have hown : Rr w2 W0.heap.size v4 (l.take k ++ newR x t) := by rw [HNEW.out]; exact hown0
            have HBW2 : Hid (Below W0.heap.size W0 w2) := hide2 (hB2 _ _ (Nat.le_refl _) (hb2.alloc hsz _))
            have hs3 := HBW2.out.size
            obtain ⟨v3, w3, hrun3, hown3, hB3, hs4, _⟩ := rapp hown hs3 (HSVX.out.keep HBW2.out) (by rw [List.length_append, htl, HNEW.out]; have := hdl (k + 1); simp only [List.length_cons, List.length_nil]; omega)
            have HO3 : Hid (Rr w3 w.heap.size v3 (doneD l x t)) := hide2 (by rw [HFIN.out]; exact Go.Joins.ownsRow_le hown3 (by omega))
            have HBW3 : Hid (Below w.heap.size w w3) := hide2 (HB0.out.trans ((hB3 _ _ (Nat.le_refl _) HBW2.out).mono (by omega)))
            have HB3W := xhide (hB3 _ _ (Nat.le_refl _) HBW2.out)
            obtain ⟨y20, y21, y22⟩ := HM0.out w2 HBW2.out
            have HRUN := hide2 hrun
            clear hrun hown0 hB2 HBW2
            have FIN := xhide (H.out.setL HBW3.out HO3.out)
            have h30 := HM0.out w3 HB3W.out
            obtain ⟨z3, z4, z5⟩ := h30
            obtain ⟨av, cv, ev, _⟩ := HO3.out.seq
            subst ev
            have HRUN3 := hide2 hrun3
            have hsl : ∀ u : World, (Instr.slice 22 (.slice (some ⟨g, off, none⟩) l.length cap) (some (.int .i64 ((k : Int) + 1))) none none).run Try.prog u = .ok xv u := fun u => HSL.out u
            clear hown HO hrun3 hown3 hB3 HFIN
            refine hide2 ?_
            refine Lib.wpList_append_run _ rfl _ _ _ _ rfl _ _ rfl rfl v4 w2 HRUN.out ?_
            go_frame
            go_wp2_with (at_builtin; refine Hid.out ?_)
            refine hide2 ?_
            refine Lib.wpList_append_run _ rfl _ _ _ _ rfl _ _ rfl rfl _ w3 HRUN3.out ?_
            go_frame
            go_wp2
            go_end0
            exact ⟨rfl, FIN.out⟩
        · have t2 : (p.k.toList == x.key.toList) = false := by rw [str_test]; simpa using hpe
          cases hg2 : x.gone with
          | true =>
            have HNEW : Hid (newR x t = []) := hide2 (by unfold newR; rw [hg2]; rfl)
            rw [hg2] at q2
            clear hg2
            obtain ⟨xv, hsl, hsv⟩ := HSV.out.from hcap (k) (by omega)
            have HSL := hide2 hsl
            have HSVX := hide2 hsv
            clear hsl hsv
            have HFIN : Hid (doneD l x t = (l.take k ++ newR x t) ++ l.drop (k)) := hide2 (by rw [HD.out, cutK_no hp hpe, List.append_assoc])
            clear hp hpe
            clear HD
            go_wp2_with fail
            go_quiet (fail)
            revert nq; intro n1
            have hsl : ∀ u : World, (Instr.slice 22 (.slice (some ⟨g, off, none⟩) l.length cap) (some (.int .i64 ((k : Int)))) none none).run Try.prog u = .ok xv u := HSL.out
            go_wp2_with fail
            go_quiet (fail)
            go_wp2_with (at_builtin; refine Hid.out ?_)
            have hb2 : Below W0.heap.size W0 (wr.drewN (n1 + nq)) := below_drewN HB.out (n1 + nq)
            have hown : Rr (wr.drewN (n1 + nq)) W0.heap.size u6 (l.take k ++ newR x t) := by rw [HNEW.out, List.append_nil]; exact HO.out
            obtain ⟨v3, w3, hrun3, hown3, hB3, hs4, _⟩ := rapp hown hb2.size (HSVX.out.keep hb2) (by rw [List.length_append, htl, HNEW.out]; have := hdl (k); simp only [List.length_nil]; omega)
            have HO3 : Hid (Rr w3 w.heap.size v3 (doneD l x t)) := hide2 (by rw [HFIN.out]; exact Go.Joins.ownsRow_le hown3 (by omega))
            have HBW3 : Hid (Below w.heap.size w w3) := hide2 (HB0.out.trans ((hB3 _ _ (Nat.le_refl _) hb2).mono (by omega)))
            have HB3W := xhide (hB3 _ _ (Nat.le_refl _) hb2)
            have FIN := xhide (H.out.setL HBW3.out HO3.out)
            have h30 := HM0.out w3 HB3W.out
            obtain ⟨z3, z4, z5⟩ := h30
            obtain ⟨av, cv, ev, _⟩ := HO3.out.seq
            subst ev
            have HRUN3 := hide2 hrun3
            clear hown HO hrun3 hown3 hB3 HFIN
            refine hide2 ?_
            refine Lib.wpList_append_run _ rfl _ _ _ _ rfl _ _ rfl rfl _ w3 HRUN3.out ?_
            go_frame
            go_wp2
            go_end0
            exact ⟨rfl, FIN.out⟩
          | false =>
            have HNEW : Hid (newR x t = [⟨x.key, x.val, t⟩]) := hide2 (by unfold newR; rw [hg2]; rfl)
            rw [hg2] at q2
            clear hg2
            obtain ⟨xv, hsl, hsv⟩ := HSV.out.from hcap (k) (by omega)
            have HSL := hide2 hsl
            have HSVX := hide2 hsv
            clear hsl hsv
            have HFIN : Hid (doneD l x t = (l.take k ++ newR x t) ++ l.drop (k)) := hide2 (by rw [HD.out, cutK_no hp hpe, List.append_assoc])
            clear hp hpe
            clear HD
            go_wp2_with fail
            go_quiet (fail)
            revert nq; intro n1
            go_wp2_with fail
            go_quiet (fail)
            go_wp2_with (at_builtin; refine Hid.out ?_)
            have hb2 : Below W0.heap.size W0 (wr.drewN (n1 + nq)) := below_drewN HB.out (n1 + nq)
            obtain ⟨v4, w2, hrun, hown0, hB2, hs2, _⟩ := rapp (w := (wr.drewN (n1 + nq)).alloc (.cells #[.string x.key, .string x.val, .int .i64 t] 45)) (World.ownsRow.alloc HO.out _) (by simp; omega) (sv_one (wr.drewN (n1 + nq)) ⟨x.key, x.val, t⟩) (by rw [htl]; simp; omega)
            have hown : Rr w2 W0.heap.size v4 (l.take k ++ newR x t) := by rw [HNEW.out]; exact hown0
            have HBW2 : Hid (Below W0.heap.size W0 w2) := hide2 (hB2 _ _ (Nat.le_refl _) (hb2.alloc hsz _))
            have hs3 := HBW2.out.size
            obtain ⟨v3, w3, hrun3, hown3, hB3, hs4, _⟩ := rapp hown hs3 (HSVX.out.keep HBW2.out) (by rw [List.length_append, htl, HNEW.out]; have := hdl (k); simp only [List.length_cons, List.length_nil]; omega)
            have HO3 : Hid (Rr w3 w.heap.size v3 (doneD l x t)) := hide2 (by rw [HFIN.out]; exact Go.Joins.ownsRow_le hown3 (by omega))
            have HBW3 : Hid (Below w.heap.size w w3) := hide2 (HB0.out.trans ((hB3 _ _ (Nat.le_refl _) HBW2.out).mono (by omega)))
            have HB3W := xhide (hB3 _ _ (Nat.le_refl _) HBW2.out)
            obtain ⟨y20, y21, y22⟩ := HM0.out w2 HBW2.out
            have HRUN := hide2 hrun
            clear hrun hown0 hB2 HBW2
            have FIN := xhide (H.out.setL HBW3.out HO3.out)
            have h30 := HM0.out w3 HB3W.out
            obtain ⟨z3, z4, z5⟩ := h30
            obtain ⟨av, cv, ev, _⟩ := HO3.out.seq
            subst ev
            have HRUN3 := hide2 hrun3
            have hsl : ∀ u : World, (Instr.slice 22 (.slice (some ⟨g, off, none⟩) l.length cap) (some (.int .i64 ((k : Int)))) none none).run Try.prog u = .ok xv u := HSL.out
            clear hown HO hrun3 hown3 hB3 HFIN
            refine hide2 ?_
            refine Lib.wpList_append_run _ rfl _ _ _ _ rfl _ _ rfl rfl v4 w2 HRUN.out ?_
            go_frame
            go_wp2_with (at_builtin; refine Hid.out ?_)
            refine hide2 ?_
            refine Lib.wpList_append_run _ rfl _ _ _ _ rfl _ _ rfl rfl _ w3 HRUN3.out ?_
            go_frame
            go_wp2
            go_end0
            exact ⟨rfl, FIN.out⟩
      · have hc2 : ¬ (k : Int) < (l.length : Int) := by omega
        clear hstop
        cases hg2 : x.gone with
        | true =>
          have HNEW : Hid (newR x t = []) := hide2 (by unfold newR; rw [hg2]; rfl)
          rw [hg2] at q2
          clear hg2
          obtain ⟨xv, hsl, hsv⟩ := HSV.out.from hcap (k) (by omega)
          have HSL := hide2 hsl
          have HSVX := hide2 hsv
          clear hsl hsv
          have HFIN : Hid (doneD l x t = (l.take k ++ newR x t) ++ l.drop (k)) := hide2 (by rw [HD.out, cutK_end (by omega), List.append_assoc])
          clear HD
          go_wp2_with fail
          go_quiet (fail)
          revert nq; intro n1
          have hsl : ∀ u : World, (Instr.slice 22 (.slice ao l.length cap) (some (.int .i64 ((k : Int)))) none none).run Try.prog u = .ok xv u := HSL.out
          go_wp2_with fail
          go_quiet (fail)
          go_wp2_with (at_builtin; refine Hid.out ?_)
          have hb2 : Below W0.heap.size W0 (wr.drewN (n1 + nq)) := below_drewN HB.out (n1 + nq)
          have hown : Rr (wr.drewN (n1 + nq)) W0.heap.size u6 (l.take k ++ newR x t) := by rw [HNEW.out, List.append_nil]; exact HO.out
          obtain ⟨v3, w3, hrun3, hown3, hB3, hs4, _⟩ := rapp hown hb2.size (HSVX.out.keep hb2) (by rw [List.length_append, htl, HNEW.out]; have := hdl (k); simp only [List.length_nil]; omega)
          have HO3 : Hid (Rr w3 w.heap.size v3 (doneD l x t)) := hide2 (by rw [HFIN.out]; exact Go.Joins.ownsRow_le hown3 (by omega))
          have HBW3 : Hid (Below w.heap.size w w3) := hide2 (HB0.out.trans ((hB3 _ _ (Nat.le_refl _) hb2).mono (by omega)))
          have HB3W := xhide (hB3 _ _ (Nat.le_refl _) hb2)
          have FIN := xhide (H.out.setL HBW3.out HO3.out)
          have h30 := HM0.out w3 HB3W.out
          obtain ⟨z3, z4, z5⟩ := h30
          obtain ⟨av, cv, ev, _⟩ := HO3.out.seq
          subst ev
          have HRUN3 := hide2 hrun3
          clear hown HO hrun3 hown3 hB3 HFIN
          refine hide2 ?_
          refine Lib.wpList_append_run _ rfl _ _ _ _ rfl _ _ rfl rfl _ w3 HRUN3.out ?_
          go_frame
          go_wp2
          go_end0
          exact ⟨rfl, FIN.out⟩
        | false =>
          have HNEW : Hid (newR x t = [⟨x.key, x.val, t⟩]) := hide2 (by unfold newR; rw [hg2]; rfl)
          rw [hg2] at q2
          clear hg2
          obtain ⟨xv, hsl, hsv⟩ := HSV.out.from hcap (k) (by omega)
          have HSL := hide2 hsl
          have HSVX := hide2 hsv
          clear hsl hsv
          have HFIN : Hid (doneD l x t = (l.take k ++ newR x t) ++ l.drop (k)) := hide2 (by rw [HD.out, cutK_end (by omega), List.append_assoc])
          clear HD
          go_wp2_with fail
          go_quiet (fail)
          revert nq; intro n1
          go_wp2_with fail
          go_quiet (fail)
          go_wp2_with (at_builtin; refine Hid.out ?_)
          have hb2 : Below W0.heap.size W0 (wr.drewN (n1 + nq)) := below_drewN HB.out (n1 + nq)
          obtain ⟨v4, w2, hrun, hown0, hB2, hs2, _⟩ := rapp (w := (wr.drewN (n1 + nq)).alloc (.cells #[.string x.key, .string x.val, .int .i64 t] 45)) (World.ownsRow.alloc HO.out _) (by simp; omega) (sv_one (wr.drewN (n1 + nq)) ⟨x.key, x.val, t⟩) (by rw [htl]; simp; omega)
          have hown : Rr w2 W0.heap.size v4 (l.take k ++ newR x t) := by rw [HNEW.out]; exact hown0
          have HBW2 : Hid (Below W0.heap.size W0 w2) := hide2 (hB2 _ _ (Nat.le_refl _) (hb2.alloc hsz _))
          have hs3 := HBW2.out.size
          obtain ⟨v3, w3, hrun3, hown3, hB3, hs4, _⟩ := rapp hown hs3 (HSVX.out.keep HBW2.out) (by rw [List.length_append, htl, HNEW.out]; have := hdl (k); simp only [List.length_cons, List.length_nil]; omega)
          have HO3 : Hid (Rr w3 w.heap.size v3 (doneD l x t)) := hide2 (by rw [HFIN.out]; exact Go.Joins.ownsRow_le hown3 (by omega))
          have HBW3 : Hid (Below w.heap.size w w3) := hide2 (HB0.out.trans ((hB3 _ _ (Nat.le_refl _) HBW2.out).mono (by omega)))
          have HB3W := xhide (hB3 _ _ (Nat.le_refl _) HBW2.out)
          obtain ⟨y20, y21, y22⟩ := HM0.out w2 HBW2.out
          have HRUN := hide2 hrun
          clear hrun hown0 hB2 HBW2
          have FIN := xhide (H.out.setL HBW3.out HO3.out)
          have h30 := HM0.out w3 HB3W.out
          obtain ⟨z3, z4, z5⟩ := h30
          obtain ⟨av, cv, ev, _⟩ := HO3.out.seq
          subst ev
          have HRUN3 := hide2 hrun3
          have hsl : ∀ u : World, (Instr.slice 22 (.slice ao l.length cap) (some (.int .i64 ((k : Int)))) none none).run Try.prog u = .ok xv u := HSL.out
          clear hown HO hrun3 hown3 hB3 HFIN
          refine hide2 ?_
          refine Lib.wpList_append_run _ rfl _ _ _ _ rfl _ _ rfl rfl v4 w2 HRUN.out ?_
          go_frame
          go_wp2_with (at_builtin; refine Hid.out ?_)
          refine hide2 ?_
          refine Lib.wpList_append_run _ rfl _ _ _ _ rfl _ _ rfl rfl _ w3 HRUN3.out ?_
          go_frame
          go_wp2
          go_end0
          exact ⟨rfl, FIN.out⟩
end
end Go.Proofs.Ytheidhkmmihjlaa

/-
  XmY: The document's get, over, told.
-/
set_option linter.unusedVariables false
set_option linter.unusedSimpArgs false
namespace Go.Proofs.Ytheidhkmmihjlaa
open Go.RowKit Go.Shelf Go.Maps
open ML (Ro RS Rr Sv Srt nless fstOf od nl_irr nl_tr nl_tot)
attribute [local go_sem] Oper.semAt_some
section
set_option maxHeartbeats 1000000
set_option maxRecDepth 100000
variable {w : World} {Y : Nat} {S : Ms}
theorem rget_any (h : Rx w Y S) (ok : S.ok) (key : ByteArray) : Calls Try.prog 36 #[ptr Y, .string key] w fun e w' => e = .returned (.tuple #[.string ((look S key).getD ⟨#[]⟩), .bool (look S key).isSome]) ∧ Below w.heap.size w w' := by
  have HW := xhide (rwritten_any h key)
  have H0 := xhide h
  have HOK := xhide ok
  clear h ok
  go_enter Try.func36, Try.ntmps36
  go_wp2_with fail
  refine HW.out.mono ?_
  rintro e w1 ⟨rfl, hb1⟩
  cases hq : wOf (S.ws.getD []) key with
  | some x =>
    have hl : look S key = if x.gone then none else some x.val := by unfold look; rw [hq]
    have hx := (wOf_some HOK.out.kd).1 hq
    have hg := (okW_iff.1 (HOK.out.ows x hx.1)).2.2
    have HB := xhide (hb1.trans ((ML.below1 w1 (wrO x)).mono hb1.size))
    clear hb1 HW hx
    simp only [Option.getD_some, Option.isSome_some]
    have FIN : Hid ((look S key).getD ⟨#[]⟩ = x.val ∧ (look S key).isSome = !x.gone) := xhide (by
      rw [hl]
      cases e : x.gone with
      | true => exact ⟨(empty_of (hg e)).symm, rfl⟩
      | false => exact ⟨rfl, rfl⟩)
    clear hl hg hq
    go_wp2_with fail
    go_quiet (fail)
    go_wp2
    go_ret2
    exact ⟨by rw [FIN.out.1, FIN.out.2]; rfl, xdrew HB.out _⟩
  | none =>
    have hl : look S key = (fstOf S.L key).map Ro.v := by unfold look; rw [hq]
    have HL := xhide hl
    simp only [Option.getD_none, Option.isSome_none]
    have HB := xhide (hb1.trans ((ML.below1 w1 (wrO wrz)).mono hb1.size))
    clear hb1 hl hq HW
    obtain ⟨ao, cap, ao2, cap2, h⟩ := H0.out
    have hmx : (S.L.length : Int) ≤ 9223372036854775807 := by have := h.rs.2.1; have := h.rs.2.2.1; unfold maxLen at this; omega
    have H : Hid (∀ u, Below w.heap.size w u → Rm u Y S ao cap ao2 cap2) := xhide (fun u hu => h.below hu)
    clear h H0
    go_wp2_with fail
    go_loopw [8] (fun i wr => ∃ j : Nat, j ≤ S.L.length ∧ i = .int .i64 (j : Nat) ∧ Hid (∀ y ∈ S.L.take j, y.k ≠ key) ∧ Hid (Below w.heap.size w wr)) (fun i _ => S.L.length - (intOf i).toNat)
    case atStart => exact ⟨0, by omega, rfl, xhide (by simp), HB⟩
    case round =>
      obtain ⟨j, hj, rfl, HN, HBW⟩ := hrel
      clear HB
      have hm := H.out wr HBW.out
      obtain ⟨y0, y1, y2, y3⟩ := hm.cells
      have hY := hm.lt
      have hrs := hm.rs
      clear hm
      by_cases hlt : j < S.L.length
      · obtain ⟨x, hx⟩ := some_at (l := S.L) rfl hlt
        obtain ⟨g, off, rfl, hgl, hc⟩ := ML.RS.at hrs (by omega)
        obtain ⟨c0, c1, c2⟩ := hc j x hx
        have d1 : (j : Int) < (S.L.length : Int) := by omega
        have te := ML.str_test x.k key
        by_cases hk : x.k = key
        · have HF := xhide ((fst_iff HOK.out.srt).2 ⟨List.mem_of_getElem? hx, hk⟩)
          rw [show decide (x.k = key) = true by simpa using hk] at te
          clear hc hrs hx hk
          go_wp2_with fail
          go_ret2
          exact ⟨by rw [HL.out, HF.out]; rfl, HBW.out⟩
        · have NX : Hid (∀ y ∈ S.L.take (j + 1), y.k ≠ key) := xhide (fun y hy => by
            rw [ML.take_snoc hx] at hy
            rcases List.mem_append.1 hy with q | q
            · exact HN.out y q
            · simp at q; rw [q]; exact hk)
          rw [show decide (x.k = key) = false by simpa using hk] at te
          clear hc hrs hx hk
          go_wp2_with fail
          go_roundw
          case rel => exact ⟨j + 1, by omega, by go_num, NX, HBW⟩
          case measure => simp [intOf]; omega
      · obtain rfl : j = S.L.length := by omega
        have d1 : ¬ (S.L.length : Int) < (S.L.length : Int) := by omega
        have hN := HN.out
        rw [List.take_length] at hN
        have HF : Hid (fstOf S.L key = none) := xhide (by
          cases hf : fstOf S.L key with
          | none => rfl
          | some r =>
            obtain ⟨h1, h2⟩ := (fst_iff HOK.out.srt).1 hf
            exact absurd h2 (hN r h1))
        clear hN hrs
        go_wp2_with fail
        go_ret2
        exact ⟨by rw [HL.out, HF.out]; rfl, HBW.out⟩
theorem rover_any {ao : Option Addr} {cap : Nat} {ao2 : Option Addr} {cap2 : Nat} (h : Rm w Y S ao cap ao2 cap2) : Calls Try.prog 40 #[ptr Y] w fun e w' => e = .returned (.tuple #[]) ∧ Rm w' Y ⟨S.L, S.t, none⟩ ao cap none 0 ∧ Chg (fun j => j = Y) w w' := by
  obtain ⟨y0, y1, y2, y3⟩ := h.cells
  have f2 := h.free 2
  have f3 := h.free 3
  have hY := h.lt
  have FIN : Hid (Rm ((w.setCell ⟨Y, 2, none⟩ (.bool false)).setCell ⟨Y, 3, none⟩ (.slice none 0 0)) Y ⟨S.L, S.t, none⟩ ao cap none 0 ∧ Chg (fun j => j = Y) w ((w.setCell ⟨Y, 2, none⟩ (.bool false)).setCell ⟨Y, 3, none⟩ (.slice none 0 0))) := xhide (by
    have hc := (cell_chg w Y 2 (.bool false)).trans (cell_chg (w.setCell ⟨Y, 2, none⟩ (.bool false)) Y 3 (.slice none 0 0)) (fun j _ q => q)
    exact ⟨⟨(Go.Joins.block_setCell (Go.Joins.block_setCell h.blk _) _).trans rfl, rs_chg h.rs hc (fun j hj q => h.d1 j hj q), ⟨rfl, Nat.le_refl _, Nat.zero_le _, fun q => absurd q (Nat.lt_irrefl 0)⟩, h.n1, fun _ => rfl, h.d1, nofun, fun j hj => Nat.lt_of_lt_of_le (h.l1 j hj) hc.size, nofun⟩, hc⟩)
  clear h
  go_enter Try.func40, Try.ntmps40
  go_wp2
  go_end0
  exact ⟨rfl, FIN.out⟩
variable {ao : Option Addr} {len cap : Nat} {L : List Ro}
theorem rtold_any (h : RS w ao len cap L) (hl : len + 2 ≤ big) : Calls Try.prog 62 #[.slice ao len cap] w fun e w' => ∃ v, e = .returned v ∧ Rr w' w.heap.size v (L.filter fun r => decide (r.t = 0)) ∧ Below w.heap.size w w' := by
  obtain rfl := h.1
  have hmx : (L.length : Int) ≤ 9223372036854775807 := by unfold big at hl; omega
  have H : Hid (∀ u, Below w.heap.size w u → RS u ao L.length cap L) := xhide (fun u hu => h.below hu (fun b off e hlt => hlt))
  clear h
  go_enter Try.func62, Try.ntmps62
  go_wp2_with fail
  go_loopw [3, 4] (fun v i wr => ∃ k : Nat, k ≤ L.length ∧ i = .int .i64 (k : Nat) ∧ Hid (Rr wr w.heap.size v ((L.take k).filter fun r => decide (r.t = 0))) ∧ Hid (Below w.heap.size w wr)) (fun _ i _ => L.length - (intOf i).toNat)
  case atStart => exact ⟨0, by omega, rfl, xhide ⟨rfl, .inl ⟨rfl, rfl⟩⟩, xhide (Below.refl _ _)⟩
  case round =>
    obtain ⟨k, hk, rfl, HO, HB⟩ := hrel
    by_cases hlt : k < L.length
    · obtain ⟨x, hx⟩ := some_at (l := L) rfl hlt
      obtain ⟨g, off, rfl, hgl, hc⟩ := ML.RS.at (H.out _ HB.out) (by omega)
      obtain ⟨c0, c1, c2⟩ := hc k x hx
      have d1 : (k : Int) < (L.length : Int) := by omega
      have htk := take_filter (p := fun r : Ro => decide (r.t = 0)) hx
      by_cases ht : x.t = 0
      · have HT := xhide htk
        have hfl : ((L.take k).filter fun r => decide (r.t = 0)).length ≤ k := Nat.le_trans (List.length_filter_le _ _) (List.length_take_le _ _)
        obtain ⟨v', w2, hrun, hown, hlow, hsz, hoth⟩ := rapp2 (w := wr.alloc (.cells #[.string x.k, .string x.v, .int .i64 x.t] 45)) (World.ownsRow.alloc HO.out _) (by have := HB.out.size; simp; omega) (ML.sv_one wr x) (by simp only [List.length_cons, List.length_nil]; omega)
        have NO : Hid (Rr w2 w.heap.size v' ((L.take (k + 1)).filter fun r => decide (r.t = 0))) := xhide (by
          rw [htk, if_pos (by simpa using ht)]; exact hown)
        have tb : (x.t == 0) = true := by simpa using ht
        have td : decide (x.t = 0) = true := by simpa using ht
        have NB : Hid (Below w.heap.size w w2) := xhide (hlow w _ (Nat.le_refl _) (HB.out.trans ((ML.below1 wr _).mono HB.out.size)))
        have HRUN := xhide hrun
        clear hrun hown hlow hsz hoth hc hx htk HT ht
        go_wp2_with (at_builtin; refine Hid.out ?_)
        refine xhide ?_
        refine Lib.wpList_append_run _ rfl _ _ _ _ rfl _ _ rfl rfl _ _ HRUN.out ?_
        go_frame
        go_wp2_with fail
        go_roundw
        case rel => exact ⟨k + 1, by omega, by go_num, NO, NB⟩
        case measure => simp [intOf]; omega
      · rw [if_neg (by simpa using ht), List.append_nil] at htk
        have NO : Hid (Rr wr w.heap.size _ ((L.take (k + 1)).filter fun r => decide (r.t = 0))) := xhide (by rw [htk]; exact HO.out)
        clear hc hx htk
        go_wp2_with fail
        go_roundw
        case rel => exact ⟨k + 1, by omega, by go_num, NO, HB⟩
        case measure => simp [intOf]; omega
    · obtain rfl : k = L.length := by omega
      have d1 : ¬ (L.length : Int) < (L.length : Int) := by omega
      rw [List.take_length] at HO
      go_wp2
      go_ret
      exact ⟨_, rfl, HO.out, HB.out⟩
end
end Go.Proofs.Ytheidhkmmihjlaa

/-
  XnW: The document's write: one more.
-/
set_option linter.unusedVariables false
set_option linter.unusedSimpArgs false
namespace Go.Proofs.Ytheidhkmmihjlaa
open Go.RowKit
open ML (Ro RS Rr Sv nless take_snoc)
attribute [local go_sem] Oper.semAt_some

theorem svw_slice {w : World} {ao : Option Addr} {cap : Nat} {ps : List Wr} (h : WS w ao ps.length cap ps) (hn : ao = none → cap = 0) {k : Nat} (hk : k ≤ ps.length) :
    ∃ x, (∀ u : World, (Instr.slice 34 (.slice ao ps.length cap) (some (.int .i64 (k : Int))) none none).run Try.prog u = .ok x u) ∧ Svw w x (ps.drop k) := by
  have ht : Try.prog.underlying 34 = some (.slice (Try.prog.elem 34)) := by kernel_rfl
  have he : Try.prog.elem 34 = 61 := by kernel_rfl
  have hs : ∀ u : World, (Go.sizeOf 61).run Try.prog u = .ok 3 u := fun u => by kernel_rfl
  refine ⟨sliced ao k ps.length cap 3, fun u => ?_, ?_⟩
  · rw [run_slice_l u 34 ao ps.length cap ht .i64 (k : Int) (by omega) (by omega), he, hs]
    rfl
  · simp only [sliced]
    exact svw_from h hn hk
theorem svw_one (w : World) (x : Wr) : Svw (w.alloc (wrO x)) (.slice (some ⟨w.heap.size, 0, none⟩) 1 1) [x] := .inr ⟨_, 1, rfl, fun j u hu => by
  have hj := (List.getElem?_eq_some_iff.1 hu).1
  simp [wrc] at hj
  rw [addr_plus, Nat.zero_add, Go.Joins.cell_of_block (heap_alloc_new _ _)]
  rcases (show j = 0 ∨ j = 1 ∨ j = 2 by omega) with rfl | rfl | rfl <;> (simp [wrc] at hu; subst hu; rfl)⟩
theorem rp_chg (w : World) (g : Nat) (a b c d e f : Value) : Chg (fun j => j = g) w (rpSet w g a b c d e f) :=
  ⟨rp_below (Below.refl 0 w) (Nat.zero_le _) a b c d e f, fun j hj n => rp_else n _ _ _ _ _ _⟩
section
variable {w w' : World} {Y : Nat} {S : Ms} {ao ao2 : Option Addr} {cap cap2 : Nat}
theorem Rm.chg {s : Nat → Prop} (h : Rm w Y S ao cap ao2 cap2) (hc : Chg s w w') (hY : ¬ s Y) (h1 : ∀ j ∈ Kr ao, ¬ s j) (h2 : ∀ j ∈ Kr ao2, ¬ s j) : Rm w' Y S ao cap ao2 cap2 :=
  ⟨(hc.2 Y h.lt hY).trans h.blk, rs_chg h.rs hc h1, ws_chg h.ws hc h2, h.n1, h.n2, h.d1, h.d2, fun j hj => Nat.lt_of_lt_of_le (h.l1 j hj) hc.size, fun j hj => Nat.lt_of_lt_of_le (h.l2 j hj) hc.size⟩
/-- What lies in a reply's own block does not touch it. -/
theorem Rm.rp (h : Rm w Y S ao cap ao2 cap2) {R : Nat} (hY : R ≠ Y) (h1 : ∀ j ∈ Kr ao, j ≠ R) (h2 : ∀ j ∈ Kr ao2, j ≠ R) (a b c d e f : Value) : Rm (rpSet w R a b c d e f) Y S ao cap ao2 cap2 :=
  h.chg (rp_chg w R a b c d e f) (fun q => hY q.symm) h1 h2
/-- The writes are put anew; behind it a reply is laid in a block that was made on the way. -/
theorem Rm.putR {L : List Ro} {tt : Int} {ps ps' : List Wr} (h : Rm w Y ⟨L, tt, some ps⟩ ao cap ao2 cap2) {W1 w3 : World} {v : Value} {R : Nat} (h1 : Below w.heap.size w W1) (hR : w.heap.size ≤ R) (hR1 : R < W1.heap.size) (hb : Below W1.heap.size W1 w3) (hv : Wo w3 W1.heap.size v ps') (a b c d e f : Value) :
    Rn w (rpSet (w3.setCell ⟨Y, 3, none⟩ v) R a b c d e f) Y ao ao2 ⟨L, tt, some ps'⟩ ∧ Chg (fun j => j = Y) w (rpSet (w3.setCell ⟨Y, 3, none⟩ v) R a b c d e f) := by
  obtain ⟨a', c', rfl, hrs, hn, hK⟩ := wo_form hv
  have hb3 : Below w.heap.size w w3 := h1.trans (hb.mono h1.size)
  have hc := cell_chg w3 Y 3 (.slice a' ps'.length c')
  have h3 := h.below hb3
  have hlt := h.lt
  have hs1 := h1.size
  have hsz := hc.size
  have hm : Rm (w3.setCell ⟨Y, 3, none⟩ (.slice a' ps'.length c')) Y ⟨L, tt, some ps'⟩ ao cap a' c' := ⟨(Go.Joins.block_setCell h3.blk _).trans rfl, rs_chg h3.rs hc (fun j hj q => h.d1 j hj q), ws_chg hrs hc (fun j hj q => by have := hK j hj; omega), h.n1, hn, h.d1, fun j hj => by have := hK j hj; omega, fun j hj => by have := h3.l1 j hj; omega, fun j hj => by have := hK j hj; omega⟩
  refine ⟨⟨ao, cap, a', c', hm.rp (by omega) (fun j hj => by have := h.l1 j hj; omega) (fun j hj => by have := hK j hj; omega) a b c d e f, fun j hj => .inl hj, fun j hj => .inr (by have := hK j hj; omega)⟩, ?_⟩
  exact ((Chg.below (s := fun j => j = Y) hb3).trans hc (fun j _ q => q)).trans (rp_chg _ R a b c d e f) (fun j hj q => by omega)
end
section
set_option maxHeartbeats 8000000
set_option maxRecDepth 100000
variable {w : World} {Y : Nat} {ao ao2 : Option Addr} {cap cap2 : Nat} {L : List Ro} {tt : Int} {ps : List Wr}
theorem putW_yes {ps : List Wr} {n : Nat} {x z : Wr} (h1 : ∀ y ∈ ps.take n, nless y.key x.key = true) (hz : ps[n]? = some z) (he : z.key = x.key) : putW ps x = (ps.take n ++ [x]) ++ ps.drop (n + 1) := by
  have hn := (List.getElem?_eq_some_iff.1 hz).1
  unfold putW
  rw [Ck.put_at (Nat.le_of_lt hn) h1 (fun y hy q => by rw [hz] at hy; cases hy; rw [he] at q; rw [ML.nl_irr] at q; cases q), hz]
  simp [he]
theorem stop_yes {ps : List Wr} {k : Nat} {x z : Wr} (hs : SrtW ps) (h1 : ∀ y ∈ ps.take k, nless y.key x.key = true) (h2 : ∀ y, ps[k]? = some y → nless y.key x.key = false) (hz : wOf ps x.key = some z) : ∃ p, ps[k]? = some p ∧ p.key = x.key := by
  obtain ⟨hm, he⟩ := (wOf_some hs).1 hz
  obtain ⟨i, hi, rfl⟩ := List.getElem_of_mem hm
  by_cases hik : i < k
  · have := h1 ps[i] (List.mem_iff_getElem.2 ⟨i, by rw [List.length_take]; omega, by rw [List.getElem_take]⟩)
    rw [he, ML.nl_irr] at this; cases this
  · have hk : k < ps.length := by omega
    refine ⟨ps[k], List.getElem?_eq_getElem hk, ?_⟩
    by_cases e : k = i
    · subst e; exact he
    · have := List.pairwise_iff_getElem.1 hs k i hk hi (by omega)
      rw [he, h2 _ (List.getElem?_eq_getElem hk)] at this; cases this
theorem rwrite_any (h : Rm w Y ⟨L, tt, some ps⟩ ao cap ao2 cap2) (hs : SrtW ps) (h64 : ps.length ≤ 64) (x : Wr) :
    Calls Try.prog 38 #[ptr Y, x.w] w fun e w' => e = .returned (rp0 (wrt ⟨L, tt, some ps⟩ x).2.code .empty false 0) ∧ Rn w w' Y ao ao2 (wrt ⟨L, tt, some ps⟩ x).1 ∧ Chg (fun j => j = Y) w w' := by
  have hlY := h.lt
  obtain ⟨W0, hW0⟩ : ∃ W0, W0 = (w.alloc (wrO x)).alloc rpB := ⟨_, rfl⟩
  have hb0 : Below w.heap.size w W0 := by rw [hW0]; exact ML.below2 _ _ _
  have hz0 : W0.heap.size = w.heap.size + 2 := by rw [hW0]; simp
  have hx0 : W0.heap[w.heap.size]? = some (wrO x) := by rw [hW0]; exact (Below.heap_alloc _ _ _ (by simp)).trans (heap_alloc_new _ _)
  have hr0 : W0.heap[w.heap.size + 1]? = some rpB := by rw [hW0]; exact ML.heap_alloc_at (by simp) _
  have HWR := xhide (rwritten_any (h.below hb0).x x.key)
  have q0 : W0.cell? ⟨w.heap.size, 0, none⟩ = some (.string x.key) := by rw [Go.Joins.cell_of_block hx0]; rfl
  have hlx : w.heap.size < W0.heap.size := by omega
  have H := xhide h
  have HB0 := xhide hb0
  have HX0 := xhide hx0
  have HR0 := xhide hr0
  have HS := xhide hs
  clear h hb0 hx0 hr0 hs
  go_enter Try.func38, Try.ntmps38
  go_wp2_with fail
  rw [← hW0]
  clear hW0
  refine HWR.out.mono ?_
  rintro e w1 ⟨rfl, hb1⟩
  simp only [Option.getD_some]
  cases hq : wOf ps x.key with
  | none =>
    as_aux_lemma =>
      simp only [Option.getD_none, Option.isSome_none]
      obtain ⟨W1, hW1⟩ : ∃ W1, W1 = w1.alloc (wrO wrz) := ⟨_, rfl⟩
      have hb01 : Below W0.heap.size W0 W1 := by rw [hW1]; exact hb1.trans ((ML.below1 _ _).mono hb1.size)
      have hbw1 : Below w.heap.size w W1 := HB0.out.trans (hb01.mono (by omega))
      have hm0 := H.out.below (HB0.out.trans (hb1.mono (by omega)))
      have y3 : w1.cell? ⟨Y, 3, none⟩ = some (.slice ao2 ps.length cap2) := hm0.cells.2.2.2
      have hY1 := hm0.lt
      have HM1 := xhide (H.out.below hbw1)
      have HX1 := xhide ((hb01.block _ (by omega)).trans HX0.out)
      have HR1 := xhide ((hb01.block _ (by omega)).trans HR0.out)
      have hz1 := hb01.size
      have hRl : w.heap.size + 1 < W1.heap.size := by omega
      have hxl : w.heap.size < W1.heap.size := by omega
      have hRY : w.heap.size + 1 ≠ Y := by omega
      have HQ := xhide hq
      have HBW1 := xhide hbw1
      by_cases hful : ps.length = 64
      · have HWRT : Hid (wrt ⟨L, tt, some ps⟩ x = (⟨L, tt, none⟩, { code := 160 })) := xhide (by unfold wrt; rw [if_pos (by simp only [Option.getD_some, hq]; exact ⟨rfl, hful⟩)])
        have dq : (64 : Int) ≤ (ps.length : Int) := by omega
        have HOV := xhide (rover_any (hm0.below (ML.below1 w1 (wrO wrz))))
        have HRA : Hid ((w1.alloc (wrO wrz)).heap[w.heap.size + 1]? = some rpB) := xhide (by rw [← hW1]; exact HR1.out)
        have hbx := ML.below1 w1 (wrO wrz)
        have HBX : Hid (Below w.heap.size w (w1.alloc (wrO wrz))) := xhide (by rw [← hW1]; exact HBW1.out)
        clear hful hb1 hb01 hbw1 hm0 hq HB0 HX0 HR0 HWR hbx
        go_wp2_with fail
        refine HOV.out.mono ?_
        rintro e w2 ⟨rfl, hm2, hc2⟩
        have hr2 := (hc2.2 (w.heap.size + 1) (Array.getElem?_eq_some_iff.1 HRA.out).1 hRY).trans HRA.out
        obtain ⟨⟨k0, k1, k2, k3, k4, k5⟩, g0, g1, g2, g3, g4, g5⟩ := rp_cells hr2
        have hR2 : w.heap.size + 1 < w2.heap.size := (Array.getElem?_eq_some_iff.1 hr2).1
        have FIN : Hid (Rn w (rpSet w2 (w.heap.size + 1) (.int .i64 160) (.string ⟨#[]⟩) (.bool false) (.slice none 0 0) (.int .i64 0) (.int .i64 0)) Y ao ao2 ⟨L, tt, none⟩ ∧ Chg (fun j => j = Y) w (rpSet w2 (w.heap.size + 1) (.int .i64 160) (.string ⟨#[]⟩) (.bool false) (.slice none 0 0) (.int .i64 0) (.int .i64 0))) := xhide
          ⟨⟨_, _, _, _, hm2.rp hRY (fun j hj => by have := H.out.l1 j hj; omega) nofun _ _ _ _ _ _, fun j hj => .inl hj, nofun⟩,
           ((Chg.below (s := fun j => j = Y) HBX.out).trans hc2 (fun j _ q => q)).trans (rp_chg w2 (w.heap.size + 1) _ _ _ _ _ _) (fun j hj q => by omega)⟩
        have HR2 := xhide hr2
        clear hm2 hc2 hr2 HOV
        go_wp2
        refine bodyPost_ret (v := rp0 160 .empty false 0) (results_cell_row (p := 4) (ty := 41) rfl _ _ (w.heap.size + 1) 41 _ (0, 0) _ rfl (rp_set HR2.out _ _ _ _ _ _) Try.underlying41 rfl (by kernel_rfl)) rfl ?_
        rw [HWRT.out]
        exact ⟨rfl, FIN.out.1, FIN.out.2⟩
      · have HWRT : Hid (wrt ⟨L, tt, some ps⟩ x = (⟨L, tt, some (putW ps x)⟩, {})) := xhide (by unfold wrt; rw [if_neg (by simp only [Option.getD_some]; exact fun q => hful q.2)]; rfl)
        have dq : ¬ (64 : Int) ≤ (ps.length : Int) := by omega
        clear hful hb1 hb01 hbw1 hm0 hq HB0 HX0 HR0 HWR
        go_wp2_with fail
        go_loopw [7, 8] (fun v i wr => ∃ k : Nat, k ≤ ps.length ∧ i = .int .i64 (k : Nat) ∧ Hid (∀ y ∈ ps.take k, nless y.key x.key = true) ∧ Hid (Wo wr W1.heap.size v (ps.take k)) ∧ Hid (Below W1.heap.size W1 wr)) (fun _ i _ => ps.length - (intOf i).toNat)
        case atStart => exact ⟨0, by omega, rfl, xhide (fun y hy => by simp at hy), xhide ⟨rfl, .inl ⟨rfl, rfl⟩⟩, xhide (by rw [hW1]; exact Below.refl _ _)⟩
        case round =>
          obtain ⟨k, hk, rfl, HALL, HO, HB⟩ := hrel
          clear hW1 y3 hY1 q0 hlx
          have hm := HM1.out.below HB.out
          have y3 : wr.cell? ⟨Y, 3, none⟩ = some (.slice ao2 ps.length cap2) := hm.cells.2.2.2
          have hY1 := hm.lt
          have hxb := (HB.out.block _ hxl).trans HX1.out
          have q0 : wr.cell? ⟨w.heap.size, 0, none⟩ = some (.string x.key) := by rw [Go.Joins.cell_of_block hxb]; rfl
          have q1 : wr.cell? ⟨w.heap.size, 1, none⟩ = some (.string x.val) := by rw [Go.Joins.cell_of_block hxb]; rfl
          have q2 : wr.cell? ⟨w.heap.size, 2, none⟩ = some (.bool x.gone) := by rw [Go.Joins.cell_of_block hxb]; rfl
          have hlx : w.heap.size < wr.heap.size := (Array.getElem?_eq_some_iff.1 hxb).1
          clear hxb
          by_cases hgo : ∃ p, ps[k]? = some p ∧ nless p.key x.key = true
          · obtain ⟨p, hp, hps⟩ := hgo
            have hkl := (List.getElem?_eq_some_iff.1 hp).1
            obtain ⟨g, off, rfl, hg, hc⟩ := hm.ws.2.2.2 (show 0 < ps.length by omega)
            have c0 := hc k p hp 0 _ rfl
            have c1 := hc k p hp 1 _ rfl
            have c2 := hc k p hp 2 _ rfl
            rw [Nat.add_zero] at c0
            have HTS := xhide (take_snoc hp)
            have hc2 : (k : Int) < (ps.length : Int) := by omega
            have t1 : Op.bytesLess p.key.toList x.key.toList = true := hps
            have HA2 : Hid (∀ y ∈ ps.take (k + 1), nless y.key x.key = true) := xhide (fun y hy => by
              rw [HTS.out] at hy
              rcases List.mem_append.1 hy with hy | hy
              · exact HALL.out y hy
              · simp at hy; subst hy; exact hps)
            clear hc HALL hp hps hm
            go_wp2_with fail
            go_quiet (fail)
            go_wp2_with (at_builtin; refine Hid.out ?_)
            have hb2 : Below W1.heap.size W1 (wr.drewN nq) := xdrew HB.out nq
            obtain ⟨v', w2, hrun, hown, hB2, hs2, _⟩ := wapp (w := (wr.drewN nq).alloc (wrO p)) (World.ownsRow.alloc HO.out _) (by have := hb2.size; have := (ML.below1 (wr.drewN nq) (wrO p)).size; omega) (svw_one (wr.drewN nq) p) (by rw [List.length_take]; simp; omega)
            have HO2 : Hid (Wo w2 W1.heap.size v' (ps.take (k + 1))) := xhide (by rw [HTS.out]; exact hown)
            have HBW2 : Hid (Below W1.heap.size W1 w2) := xhide (hB2 _ _ (Nat.le_refl _) (hb2.trans ((ML.below1 _ _).mono hb2.size)))
            have HRUN := xhide hrun
            clear hrun hown hB2 HO HTS c0 c1 c2 hb2
            refine xhide ?_
            refine Lib.wpList_append_run _ rfl _ _ _ _ rfl _ _ rfl rfl v' w2 HRUN.out ?_
            go_frame
            go_wp2_with fail
            go_roundw
            case rel => exact ⟨k + 1, by omega, by go_num, HA2, HO2, HBW2⟩
            case measure => simp [intOf]; omega
          · have hstop : ∀ y, ps[k]? = some y → nless y.key x.key = false := fun y hy => by
              cases e : nless y.key x.key with
              | false => rfl
              | true => exact absurd ⟨y, hy, e⟩ hgo
            clear hgo
            by_cases hkl : k < ps.length
            · obtain ⟨p, hp⟩ := some_at (l := ps) (i := k) (n := ps.length) rfl hkl
              obtain ⟨g, off, rfl, hg, hc⟩ := hm.ws.2.2.2 (show 0 < ps.length by omega)
              have c0 := hc k p hp 0 _ rfl
              rw [Nat.add_zero] at c0
              have hc2 : (k : Int) < (ps.length : Int) := by omega
              have t1 : Op.bytesLess p.key.toList x.key.toList = false := hstop p hp
              clear hc
              obtain ⟨xv, hsl0, hsv⟩ := svw_slice (ps := ps) HM1.out.ws HM1.out.n2 (k := k) (by omega)
              have HSL := xhide hsl0
              have HSVX := xhide hsv
              have HFIN : Hid (putW ps x = (ps.take (k) ++ [x]) ++ ps.drop (k)) := xhide ((putW_at (Nat.le_of_lt hkl) HALL.out hstop (wOf_none.1 HQ.out)).trans (by simp))
              clear hsl0 hsv hstop hm hp
              go_wp2_with fail
              go_quiet (fail)
              go_wp2_with (at_builtin; refine Hid.out ?_)
              have hb2 : Below W1.heap.size W1 (wr.drewN nq) := xdrew HB.out nq
              obtain ⟨v4, w2, hrun, hown0, hB2, hs2, _⟩ := wapp (w := (wr.drewN nq).alloc (wrO x)) (World.ownsRow.alloc HO.out _) (by have := hb2.size; have := (ML.below1 (wr.drewN nq) (wrO x)).size; omega) (svw_one (wr.drewN nq) x) (by rw [List.length_take]; simp; omega)
              have hbw2 : Below W1.heap.size W1 w2 := hB2 _ _ (Nat.le_refl _) (hb2.trans ((ML.below1 _ _).mono hb2.size))
              obtain ⟨v3, w3, hrun3, hown3, hB3, hs4, _⟩ := wapp hown0 hbw2.size (HSVX.out.keep hbw2) (by rw [List.length_append, List.length_take, List.length_drop]; simp; omega)
              have hbw3 : Below W1.heap.size W1 w3 := hB3 _ _ (Nat.le_refl _) hbw2
              have hm2 := HM1.out.below hbw2
              have hm3 := HM1.out.below hbw3
              have e3 : w2.cell? ⟨Y, 3, none⟩ = some (.slice (some ⟨g, off, none⟩) ps.length cap2) := hm2.cells.2.2.2
              have hY2 := hm2.lt
              have i3 : w3.cell? ⟨Y, 3, none⟩ = some (.slice (some ⟨g, off, none⟩) ps.length cap2) := hm3.cells.2.2.2
              have j3 := hm3.free 3
              have hY3 := hm3.lt
              have HO3 : Hid (Wo w3 W1.heap.size v3 (putW ps x)) := xhide (by rw [HFIN.out]; exact hown3)
              obtain ⟨av, cv, ev, _⟩ := HO3.out.seq
              subst ev
              obtain ⟨a4, c4, ev4, _⟩ := hown0.seq
              subst ev4
              have hr3 := (hbw3.block _ hRl).trans HR1.out
              have hr4 : (w3.setCell ⟨Y, 3, none⟩ (.slice av (putW ps x).length cv)).heap[w.heap.size + 1]? = some rpB := (set_else hRY).trans hr3
              obtain ⟨⟨k0, k1, k2, k3, k4, k5⟩, g0, g1, g2, g3, g4, g5⟩ := rp_cells hr4
              have hR4 : w.heap.size + 1 < (w3.setCell ⟨Y, 3, none⟩ (.slice av (putW ps x).length cv)).heap.size := (Array.getElem?_eq_some_iff.1 hr4).1
              have FIN := xhide (H.out.putR (ps' := putW ps x) HBW1.out (by omega : w.heap.size ≤ w.heap.size + 1) hRl hbw3 HO3.out (.int .i64 0) (.string ⟨#[]⟩) (.bool false) (.slice none 0 0) (.int .i64 0) (.int .i64 0))
              have HRUN := xhide hrun
              have HRUN3 := xhide hrun3
              have HR4 := xhide hr4
              have hsl : ∀ u : World, (Instr.slice 34 (.slice (some ⟨g, off, none⟩) ps.length cap2) (some (.int .i64 ((k : Int)))) none none).run Try.prog u = .ok xv u := fun u => HSL.out u
              clear hrun hrun3 hown0 hown3 hB2 hB3 hbw2 hbw3 hm2 hm3 hr3 hr4 hb2
              refine xhide ?_
              refine Lib.wpList_append_run _ rfl _ _ _ _ rfl _ _ rfl rfl _ w2 HRUN.out ?_
              go_frame
              go_wp2_with (at_builtin; refine Hid.out ?_)
              refine xhide ?_
              refine Lib.wpList_append_run _ rfl _ _ _ _ rfl _ _ rfl rfl _ w3 HRUN3.out ?_
              go_frame
              generalize hW4 : w3.setCell ⟨Y, 3, none⟩ (.slice av (putW ps x).length cv) = w4 at *
              go_wp2_with fail
              try rw [hW4]
              try go_wp2_with fail
              refine bodyPost_ret (v := rp0 0 .empty false 0) (results_cell_row (p := 4) (ty := 41) rfl _ _ (w.heap.size + 1) 41 _ (0, 0) _ rfl (rp_set HR4.out _ _ _ _ _ _) Try.underlying41 rfl (by kernel_rfl)) rfl ?_
              rw [HWRT.out]
              exact ⟨rfl, FIN.out.1, FIN.out.2⟩
            · obtain rfl : k = ps.length := by omega
              have hc2 : ¬ (ps.length : Int) < (ps.length : Int) := by omega
              have hc3 : decide ((ps.length : Int) < (ps.length : Int)) = false := by simp
              obtain ⟨xv, hsl0, hsv⟩ := svw_slice (ps := ps) HM1.out.ws HM1.out.n2 (k := ps.length) (by omega)
              have HSL := xhide hsl0
              have HSVX := xhide hsv
              have HFIN : Hid (putW ps x = (ps.take (ps.length) ++ [x]) ++ ps.drop (ps.length)) := xhide ((putW_at (Nat.le_refl _) HALL.out hstop (wOf_none.1 HQ.out)).trans (by simp))
              clear hsl0 hsv hstop hm 
              go_wp2_with fail
              go_quiet (fail)
              go_wp2_with (at_builtin; refine Hid.out ?_)
              have hb2 : Below W1.heap.size W1 (wr.drewN nq) := xdrew HB.out nq
              obtain ⟨v4, w2, hrun, hown0, hB2, hs2, _⟩ := wapp (w := (wr.drewN nq).alloc (wrO x)) (World.ownsRow.alloc HO.out _) (by have := hb2.size; have := (ML.below1 (wr.drewN nq) (wrO x)).size; omega) (svw_one (wr.drewN nq) x) (by rw [List.length_take]; simp; omega)
              have hbw2 : Below W1.heap.size W1 w2 := hB2 _ _ (Nat.le_refl _) (hb2.trans ((ML.below1 _ _).mono hb2.size))
              obtain ⟨v3, w3, hrun3, hown3, hB3, hs4, _⟩ := wapp hown0 hbw2.size (HSVX.out.keep hbw2) (by rw [List.length_append, List.length_take, List.length_drop]; simp; omega)
              have hbw3 : Below W1.heap.size W1 w3 := hB3 _ _ (Nat.le_refl _) hbw2
              have hm2 := HM1.out.below hbw2
              have hm3 := HM1.out.below hbw3
              have e3 : w2.cell? ⟨Y, 3, none⟩ = some (.slice ao2 ps.length cap2) := hm2.cells.2.2.2
              have hY2 := hm2.lt
              have i3 : w3.cell? ⟨Y, 3, none⟩ = some (.slice ao2 ps.length cap2) := hm3.cells.2.2.2
              have j3 := hm3.free 3
              have hY3 := hm3.lt
              have HO3 : Hid (Wo w3 W1.heap.size v3 (putW ps x)) := xhide (by rw [HFIN.out]; exact hown3)
              obtain ⟨av, cv, ev, _⟩ := HO3.out.seq
              subst ev
              obtain ⟨a4, c4, ev4, _⟩ := hown0.seq
              subst ev4
              have hr3 := (hbw3.block _ hRl).trans HR1.out
              have hr4 : (w3.setCell ⟨Y, 3, none⟩ (.slice av (putW ps x).length cv)).heap[w.heap.size + 1]? = some rpB := (set_else hRY).trans hr3
              obtain ⟨⟨k0, k1, k2, k3, k4, k5⟩, g0, g1, g2, g3, g4, g5⟩ := rp_cells hr4
              have hR4 : w.heap.size + 1 < (w3.setCell ⟨Y, 3, none⟩ (.slice av (putW ps x).length cv)).heap.size := (Array.getElem?_eq_some_iff.1 hr4).1
              have FIN := xhide (H.out.putR (ps' := putW ps x) HBW1.out (by omega : w.heap.size ≤ w.heap.size + 1) hRl hbw3 HO3.out (.int .i64 0) (.string ⟨#[]⟩) (.bool false) (.slice none 0 0) (.int .i64 0) (.int .i64 0))
              have HRUN := xhide hrun
              have HRUN3 := xhide hrun3
              have HR4 := xhide hr4
              have hsl : ∀ u : World, (Instr.slice 34 (.slice ao2 ps.length cap2) (some (.int .i64 ((ps.length : Int)))) none none).run Try.prog u = .ok xv u := fun u => HSL.out u
              clear hrun hrun3 hown0 hown3 hB2 hB3 hbw2 hbw3 hm2 hm3 hr3 hr4 hb2
              refine xhide ?_
              refine Lib.wpList_append_run _ rfl _ _ _ _ rfl _ _ rfl rfl _ w2 HRUN.out ?_
              go_frame
              go_wp2_with (at_builtin; refine Hid.out ?_)
              refine xhide ?_
              refine Lib.wpList_append_run _ rfl _ _ _ _ rfl _ _ rfl rfl _ w3 HRUN3.out ?_
              go_frame
              generalize hW4 : w3.setCell ⟨Y, 3, none⟩ (.slice av (putW ps x).length cv) = w4 at *
              go_wp2_with fail
              try rw [hW4]
              try go_wp2_with fail
              refine bodyPost_ret (v := rp0 0 .empty false 0) (results_cell_row (p := 4) (ty := 41) rfl _ _ (w.heap.size + 1) 41 _ (0, 0) _ rfl (rp_set HR4.out _ _ _ _ _ _) Try.underlying41 rfl (by kernel_rfl)) rfl ?_
              rw [HWRT.out]
              exact ⟨rfl, FIN.out.1, FIN.out.2⟩
  | some z =>
    as_aux_lemma =>
      simp only [Option.getD_some, Option.isSome_some]
      obtain ⟨W1, hW1⟩ : ∃ W1, W1 = w1.alloc (wrO z) := ⟨_, rfl⟩
      have hb01 : Below W0.heap.size W0 W1 := by rw [hW1]; exact hb1.trans ((ML.below1 _ _).mono hb1.size)
      have hbw1 : Below w.heap.size w W1 := HB0.out.trans (hb01.mono (by omega))
      have hm0 := H.out.below (HB0.out.trans (hb1.mono (by omega)))
      have y3 : w1.cell? ⟨Y, 3, none⟩ = some (.slice ao2 ps.length cap2) := hm0.cells.2.2.2
      have hY1 := hm0.lt
      have HM1 := xhide (H.out.below hbw1)
      have HX1 := xhide ((hb01.block _ (by omega)).trans HX0.out)
      have HR1 := xhide ((hb01.block _ (by omega)).trans HR0.out)
      have hz1 := hb01.size
      have hRl : w.heap.size + 1 < W1.heap.size := by omega
      have hxl : w.heap.size < W1.heap.size := by omega
      have hRY : w.heap.size + 1 ≠ Y := by omega
      have HQ := xhide hq
      have HBW1 := xhide hbw1
      have HWRT : Hid (wrt ⟨L, tt, some ps⟩ x = (⟨L, tt, some (putW ps x)⟩, {})) := xhide (by unfold wrt; rw [if_neg (by simp only [Option.getD_some, hq]; simp)]; rfl)
      clear hb1 hb01 hbw1 hm0 hq HB0 HX0 HR0 HWR
      go_wp2_with fail
      go_loopw [7, 8] (fun v i wr => ∃ k : Nat, k ≤ ps.length ∧ i = .int .i64 (k : Nat) ∧ Hid (∀ y ∈ ps.take k, nless y.key x.key = true) ∧ Hid (Wo wr W1.heap.size v (ps.take k)) ∧ Hid (Below W1.heap.size W1 wr)) (fun _ i _ => ps.length - (intOf i).toNat)
      case atStart => exact ⟨0, by omega, rfl, xhide (fun y hy => by simp at hy), xhide ⟨rfl, .inl ⟨rfl, rfl⟩⟩, xhide (by rw [hW1]; exact Below.refl _ _)⟩
      case round =>
        obtain ⟨k, hk, rfl, HALL, HO, HB⟩ := hrel
        clear hW1 y3 hY1 q0 hlx
        have hm := HM1.out.below HB.out
        have y3 : wr.cell? ⟨Y, 3, none⟩ = some (.slice ao2 ps.length cap2) := hm.cells.2.2.2
        have hY1 := hm.lt
        have hxb := (HB.out.block _ hxl).trans HX1.out
        have q0 : wr.cell? ⟨w.heap.size, 0, none⟩ = some (.string x.key) := by rw [Go.Joins.cell_of_block hxb]; rfl
        have q1 : wr.cell? ⟨w.heap.size, 1, none⟩ = some (.string x.val) := by rw [Go.Joins.cell_of_block hxb]; rfl
        have q2 : wr.cell? ⟨w.heap.size, 2, none⟩ = some (.bool x.gone) := by rw [Go.Joins.cell_of_block hxb]; rfl
        have hlx : w.heap.size < wr.heap.size := (Array.getElem?_eq_some_iff.1 hxb).1
        clear hxb
        by_cases hgo : ∃ p, ps[k]? = some p ∧ nless p.key x.key = true
        · obtain ⟨p, hp, hps⟩ := hgo
          have hkl := (List.getElem?_eq_some_iff.1 hp).1
          obtain ⟨g, off, rfl, hg, hc⟩ := hm.ws.2.2.2 (show 0 < ps.length by omega)
          have c0 := hc k p hp 0 _ rfl
          have c1 := hc k p hp 1 _ rfl
          have c2 := hc k p hp 2 _ rfl
          rw [Nat.add_zero] at c0
          have HTS := xhide (take_snoc hp)
          have hc2 : (k : Int) < (ps.length : Int) := by omega
          have t1 : Op.bytesLess p.key.toList x.key.toList = true := hps
          have HA2 : Hid (∀ y ∈ ps.take (k + 1), nless y.key x.key = true) := xhide (fun y hy => by
            rw [HTS.out] at hy
            rcases List.mem_append.1 hy with hy | hy
            · exact HALL.out y hy
            · simp at hy; subst hy; exact hps)
          clear hc HALL hp hps hm
          go_wp2_with fail
          go_quiet (fail)
          go_wp2_with (at_builtin; refine Hid.out ?_)
          have hb2 : Below W1.heap.size W1 (wr.drewN nq) := xdrew HB.out nq
          obtain ⟨v', w2, hrun, hown, hB2, hs2, _⟩ := wapp (w := (wr.drewN nq).alloc (wrO p)) (World.ownsRow.alloc HO.out _) (by have := hb2.size; have := (ML.below1 (wr.drewN nq) (wrO p)).size; omega) (svw_one (wr.drewN nq) p) (by rw [List.length_take]; simp; omega)
          have HO2 : Hid (Wo w2 W1.heap.size v' (ps.take (k + 1))) := xhide (by rw [HTS.out]; exact hown)
          have HBW2 : Hid (Below W1.heap.size W1 w2) := xhide (hB2 _ _ (Nat.le_refl _) (hb2.trans ((ML.below1 _ _).mono hb2.size)))
          have HRUN := xhide hrun
          clear hrun hown hB2 HO HTS c0 c1 c2 hb2
          refine xhide ?_
          refine Lib.wpList_append_run _ rfl _ _ _ _ rfl _ _ rfl rfl v' w2 HRUN.out ?_
          go_frame
          go_wp2_with fail
          go_roundw
          case rel => exact ⟨k + 1, by omega, by go_num, HA2, HO2, HBW2⟩
          case measure => simp [intOf]; omega
        · have hstop : ∀ y, ps[k]? = some y → nless y.key x.key = false := fun y hy => by
            cases e : nless y.key x.key with
            | false => rfl
            | true => exact absurd ⟨y, hy, e⟩ hgo
          clear hgo
          obtain ⟨p, hp, hpe⟩ := stop_yes HS.out HALL.out hstop HQ.out
          have hkl := (List.getElem?_eq_some_iff.1 hp).1
          obtain ⟨g, off, rfl, hg, hc⟩ := hm.ws.2.2.2 (show 0 < ps.length by omega)
          have c0 := hc k p hp 0 _ rfl
          rw [Nat.add_zero] at c0
          have hc2 : (k : Int) < (ps.length : Int) := by omega
          have t1 : Op.bytesLess p.key.toList x.key.toList = false := hstop p hp
          clear hc
          obtain ⟨xv, hsl0, hsv⟩ := svw_slice (ps := ps) HM1.out.ws HM1.out.n2 (k := k + 1) (by omega)
          have HSL := xhide hsl0
          have HSVX := xhide hsv
          have HFIN : Hid (putW ps x = (ps.take (k) ++ [x]) ++ ps.drop (k + 1)) := xhide (putW_yes HALL.out hp hpe)
          clear hsl0 hsv hstop hm hp hpe
          go_wp2_with fail
          go_quiet (fail)
          go_wp2_with (at_builtin; refine Hid.out ?_)
          have hb2 : Below W1.heap.size W1 (wr.drewN nq) := xdrew HB.out nq
          obtain ⟨v4, w2, hrun, hown0, hB2, hs2, _⟩ := wapp (w := (wr.drewN nq).alloc (wrO x)) (World.ownsRow.alloc HO.out _) (by have := hb2.size; have := (ML.below1 (wr.drewN nq) (wrO x)).size; omega) (svw_one (wr.drewN nq) x) (by rw [List.length_take]; simp; omega)
          have hbw2 : Below W1.heap.size W1 w2 := hB2 _ _ (Nat.le_refl _) (hb2.trans ((ML.below1 _ _).mono hb2.size))
          obtain ⟨v3, w3, hrun3, hown3, hB3, hs4, _⟩ := wapp hown0 hbw2.size (HSVX.out.keep hbw2) (by rw [List.length_append, List.length_take, List.length_drop]; simp; omega)
          have hbw3 : Below W1.heap.size W1 w3 := hB3 _ _ (Nat.le_refl _) hbw2
          have hm2 := HM1.out.below hbw2
          have hm3 := HM1.out.below hbw3
          have e3 : w2.cell? ⟨Y, 3, none⟩ = some (.slice (some ⟨g, off, none⟩) ps.length cap2) := hm2.cells.2.2.2
          have hY2 := hm2.lt
          have i3 : w3.cell? ⟨Y, 3, none⟩ = some (.slice (some ⟨g, off, none⟩) ps.length cap2) := hm3.cells.2.2.2
          have j3 := hm3.free 3
          have hY3 := hm3.lt
          have HO3 : Hid (Wo w3 W1.heap.size v3 (putW ps x)) := xhide (by rw [HFIN.out]; exact hown3)
          obtain ⟨av, cv, ev, _⟩ := HO3.out.seq
          subst ev
          obtain ⟨a4, c4, ev4, _⟩ := hown0.seq
          subst ev4
          have hr3 := (hbw3.block _ hRl).trans HR1.out
          have hr4 : (w3.setCell ⟨Y, 3, none⟩ (.slice av (putW ps x).length cv)).heap[w.heap.size + 1]? = some rpB := (set_else hRY).trans hr3
          obtain ⟨⟨k0, k1, k2, k3, k4, k5⟩, g0, g1, g2, g3, g4, g5⟩ := rp_cells hr4
          have hR4 : w.heap.size + 1 < (w3.setCell ⟨Y, 3, none⟩ (.slice av (putW ps x).length cv)).heap.size := (Array.getElem?_eq_some_iff.1 hr4).1
          have FIN := xhide (H.out.putR (ps' := putW ps x) HBW1.out (by omega : w.heap.size ≤ w.heap.size + 1) hRl hbw3 HO3.out (.int .i64 0) (.string ⟨#[]⟩) (.bool false) (.slice none 0 0) (.int .i64 0) (.int .i64 0))
          have HRUN := xhide hrun
          have HRUN3 := xhide hrun3
          have HR4 := xhide hr4
          have hsl : ∀ u : World, (Instr.slice 34 (.slice (some ⟨g, off, none⟩) ps.length cap2) (some (.int .i64 ((k : Int) + 1))) none none).run Try.prog u = .ok xv u := fun u => HSL.out u
          clear hrun hrun3 hown0 hown3 hB2 hB3 hbw2 hbw3 hm2 hm3 hr3 hr4 hb2
          refine xhide ?_
          refine Lib.wpList_append_run _ rfl _ _ _ _ rfl _ _ rfl rfl _ w2 HRUN.out ?_
          go_frame
          go_wp2_with (at_builtin; refine Hid.out ?_)
          refine xhide ?_
          refine Lib.wpList_append_run _ rfl _ _ _ _ rfl _ _ rfl rfl _ w3 HRUN3.out ?_
          go_frame
          generalize hW4 : w3.setCell ⟨Y, 3, none⟩ (.slice av (putW ps x).length cv) = w4 at *
          go_wp2_with fail
          try rw [hW4]
          try go_wp2_with fail
          refine bodyPost_ret (v := rp0 0 .empty false 0) (results_cell_row (p := 4) (ty := 41) rfl _ _ (w.heap.size + 1) 41 _ (0, 0) _ rfl (rp_set HR4.out _ _ _ _ _ _) Try.underlying41 rfl (by kernel_rfl)) rfl ?_
          rw [HWRT.out]
          exact ⟨rfl, FIN.out.1, FIN.out.2⟩
end
end Go.Proofs.Ytheidhkmmihjlaa

/-
  XnU: The document's commit.
-/
set_option linter.unusedVariables false
set_option linter.unusedSimpArgs false
namespace Go.Proofs.Ytheidhkmmihjlaa
open Go.RowKit
open ML (Ro RS Rr Sv nless)
attribute [local go_sem] Oper.semAt_some
section
variable {w : World} {Y : Nat} {L : List Ro} {t : Int} {o : Option (List Wr)} {ao ao2 : Option Addr} {cap cap2 : Nat}
theorem Rm.setT (h : Rm w Y ⟨L, t, o⟩ ao cap ao2 cap2) (t' : Int) : Rm (w.setCell ⟨Y, 1, none⟩ (.int .i64 t')) Y ⟨L, t', o⟩ ao cap ao2 cap2 := by
  have hc := cell_chg w Y 1 (.int .i64 t')
  exact ⟨(Go.Joins.block_setCell h.blk _).trans rfl, rs_chg h.rs hc (fun j hj q => h.d1 j hj q), ws_chg h.ws hc (fun j hj q => h.d2 j hj q), h.n1, h.n2, h.d1, h.d2, fun j hj => Nat.lt_of_lt_of_le (h.l1 j hj) hc.size, fun j hj => Nat.lt_of_lt_of_le (h.l2 j hj) hc.size⟩
theorem Rm.setO (h : Rm w Y ⟨L, t, none⟩ ao cap ao2 cap2) : Rm (w.setCell ⟨Y, 2, none⟩ (.bool true)) Y ⟨L, t, some []⟩ ao cap ao2 cap2 := by
  have hc := cell_chg w Y 2 (.bool true)
  exact ⟨(Go.Joins.block_setCell h.blk _).trans rfl, rs_chg h.rs hc (fun j hj q => h.d1 j hj q), ws_chg h.ws hc (fun j hj q => h.d2 j hj q), h.n1, h.n2, h.d1, h.d2, fun j hj => Nat.lt_of_lt_of_le (h.l1 j hj) hc.size, fun j hj => Nat.lt_of_lt_of_le (h.l2 j hj) hc.size⟩
end
section
set_option maxHeartbeats 8000000
set_option maxRecDepth 100000
variable {w : World} {Y : Nat} {L : List Ro} {tt : Int} {ps : List Wr} {ao ao2 : Option Addr} {cap cap2 : Nat}
theorem rcommit_any (h : Rm w Y ⟨L, tt, some ps⟩ ao cap ao2 cap2) (hL : L.length + 64 ≤ 10000000) (h64 : ps.length ≤ 64) (ht : isT tt = true) :
    Calls Try.prog 39 #[ptr Y] w fun e w' => e = .returned (rp0 (cmt ⟨L, tt, some ps⟩).2.code .empty false (cmt ⟨L, tt, some ps⟩).2.time) ∧ Rn w w' Y ao ao2 (cmt ⟨L, tt, some ps⟩).1 ∧ Chg (fun j => j = Y) w w' := by
  have hlY := h.lt
  have hRY : w.heap.size ≠ Y := by omega
  have htb := isT_iff.1 ht
  obtain ⟨W1, hW1⟩ : ∃ W1, W1 = w.alloc rpB := ⟨_, rfl⟩
  have hb1 : Below w.heap.size w W1 := by rw [hW1]; exact ML.below1 _ _
  have hz1 : W1.heap.size = w.heap.size + 1 := by rw [hW1]; simp
  have hr1 : W1.heap[w.heap.size]? = some rpB := by rw [hW1]; exact heap_alloc_new _ _
  have hm1 := h.below hb1
  have y3 : W1.cell? ⟨Y, 3, none⟩ = some (.slice ao2 ps.length cap2) := hm1.cells.2.2.2
  have hY1 := hm1.lt
  have yw3 : w.cell? ⟨Y, 3, none⟩ = some (.slice ao2 ps.length cap2) := h.cells.2.2.2
  have HOV := xhide (rover_any hm1)
  have H := xhide h
  have HB1 := xhide hb1
  have HR1 := xhide hr1
  have HWS : Hid (∀ u, Chg (fun j => j = Y) W1 u → WS u ao2 ps.length cap2 ps) := xhide (fun u hu => ws_chg hm1.ws hu (fun j hj q => h.d2 j hj q))
  clear h hb1 hr1 hm1
  go_enter Try.func39, Try.ntmps39
  go_wp2_with fail
  rw [← hW1]
  clear hW1 yw3
  refine HOV.out.mono ?_
  rintro e w2 ⟨rfl, hm2, hc2⟩
  have hRl : w.heap.size < W1.heap.size := by omega
  have z1 : w2.cell? ⟨Y, 1, none⟩ = some (.int .i64 tt) := hm2.cells.2.1
  have f1 := hm2.free 1
  have hY2 := hm2.lt
  cases hT : isT (tt + 1) with
  | false =>
    have HCM : Hid (cmt ⟨L, tt, some ps⟩ = (⟨L, tt, none⟩, { code := 161 })) := xhide (by unfold cmt; rw [hT]; rfl)
    have dq : (1099511627776 : Int) ≤ tt + 1 := by
      by_cases q : (1099511627776 : Int) ≤ tt + 1
      · exact q
      · have := isT_iff.2 (⟨by omega, by omega⟩ : 0 ≤ tt + 1 ∧ tt + 1 ≤ 1099511627775); rw [hT] at this; cases this
    have hr2 := (hc2.2 w.heap.size hRl hRY).trans HR1.out
    obtain ⟨⟨k0, k1, k2, k3, k4, k5⟩, g0, g1, g2, g3, g4, g5⟩ := rp_cells hr2
    have hR2 : w.heap.size < w2.heap.size := (Array.getElem?_eq_some_iff.1 hr2).1
    have FIN : Hid (Rn w (rpSet w2 w.heap.size (.int .i64 161) (.string ⟨#[]⟩) (.bool false) (.slice none 0 0) (.int .i64 0) (.int .i64 0)) Y ao ao2 ⟨L, tt, none⟩ ∧ Chg (fun j => j = Y) w (rpSet w2 w.heap.size (.int .i64 161) (.string ⟨#[]⟩) (.bool false) (.slice none 0 0) (.int .i64 0) (.int .i64 0))) := xhide
      ⟨⟨_, _, _, _, hm2.rp hRY (fun j hj => by have := H.out.l1 j hj; omega) nofun _ _ _ _ _ _, fun j hj => .inl hj, nofun⟩,
       ((Chg.below (s := fun j => j = Y) HB1.out).trans hc2 (fun j _ q => q)).trans (rp_chg w2 w.heap.size _ _ _ _ _ _) (fun j hj q => by omega)⟩
    have HR2 := xhide hr2
    clear hm2 hc2 hr2 HOV
    go_wp2
    refine bodyPost_ret (v := rp0 161 .empty false 0) (results_cell_row (p := 2) (ty := 41) rfl _ _ w.heap.size 41 _ (0, 0) _ rfl (rp_set HR2.out _ _ _ _ _ _) Try.underlying41 rfl (by kernel_rfl)) rfl ?_
    rw [HCM.out]
    exact ⟨rfl, FIN.out.1, FIN.out.2⟩
  | true =>
    have HCM : Hid (cmt ⟨L, tt, some ps⟩ = (⟨doneW (tt + 1) L ps, tt + 1, none⟩, { time := tt + 1 })) := xhide (by unfold cmt; rw [hT]; rfl)
    have dq : ¬ (1099511627776 : Int) ≤ tt + 1 := by have := isT_iff.1 hT; omega
    have hm3 := hm2.setT (tt + 1)
    have hc3 := hc2.trans (cell_chg w2 Y 1 (.int .i64 (tt + 1))) (fun j _ q => q)
    have HS0 : Hid (∃ a c a2 c2, Rm (w2.setCell ⟨Y, 1, none⟩ (.int .i64 (tt + 1))) Y ⟨doneW (tt + 1) L (ps.take 0), tt + 1, none⟩ a c a2 c2 ∧ (∀ j ∈ Kr a, j ∈ Kr ao ∨ w.heap.size + 1 ≤ j) ∧ (∀ j ∈ Kr a2, w.heap.size + 1 ≤ j) ∧ Chg (fun j => j = Y) W1 (w2.setCell ⟨Y, 1, none⟩ (.int .i64 (tt + 1)))) := xhide ⟨_, _, _, _, hm3, fun j hj => .inl hj, nofun, hc3⟩
    clear hm2 hc2 hm3 hc3 HOV
    go_wp2_with fail
    go_loopw [4] (fun i wr => ∃ k : Nat, k ≤ ps.length ∧ i = .int .i64 (k : Nat) ∧ Hid (∃ a c a2 c2, Rm wr Y ⟨doneW (tt + 1) L (ps.take k), tt + 1, none⟩ a c a2 c2 ∧ (∀ j ∈ Kr a, j ∈ Kr ao ∨ w.heap.size + 1 ≤ j) ∧ (∀ j ∈ Kr a2, w.heap.size + 1 ≤ j) ∧ Chg (fun j => j = Y) W1 wr)) (fun i _ => ps.length - (intOf i).toNat)
    case atStart => exact ⟨0, by omega, rfl, HS0⟩
    case round =>
      obtain ⟨k, hk, rfl, HS⟩ := hrel
      clear HS0 z1 f1 hY2
      obtain ⟨a, c, a2, c2, hm, hA, hA2, hcg⟩ := HS.out
      have z1 : wr.cell? ⟨Y, 1, none⟩ = some (.int .i64 (tt + 1)) := hm.cells.2.1
      have hYr := hm.lt
      by_cases hlt : k < ps.length
      · obtain ⟨x, hx⟩ := some_at (l := ps) rfl hlt
        obtain ⟨g, off, rfl, hgl, hc⟩ := (HWS.out _ hcg).2.2.2 (by omega)
        have c0 := hc k x hx 0 _ rfl
        have c1 := hc k x hx 1 _ rfl
        have c2' := hc k x hx 2 _ rfl
        rw [Nat.add_zero] at c0
        have d1 : (k : Int) < (ps.length : Int) := by omega
        have hll : (doneW (tt + 1) L (ps.take k)).length ≤ 10000000 := by
          have h1 := doneW_len (t := tt + 1) (ps.take k) L
          have h2 : (ps.take k).length ≤ k := List.length_take_le _ _
          omega
        have HL : Hid (∀ u, Below wr.heap.size wr u → Calls Try.prog 33 #[ptr Y, x.w, .int .i64 (tt + 1)] u fun e w' => e = .returned (.tuple #[]) ∧ Rn u w' Y a a2 ⟨doneD (doneW (tt + 1) L (ps.take k)) x (tt + 1), tt + 1, none⟩ ∧ Chg (fun j => j = Y) u w') := xhide (fun u hu => rlay_any (hm.below hu) hll x (tt + 1))
        have HTK := xhide (doneW_take (t := tt + 1) (L := L) hx)
        have HA := xhide hA
        have HA2 := xhide hA2
        have HCG := xhide hcg
        have hszr := hcg.size
        clear hc hm hA hA2 hcg HS hx
        go_wp2_with fail
        go_region_with (go_at_call 33; refine (HL.out _ (by exact ⟨rfl, rfl, rfl, Nat.le_refl _, fun _ _ => rfl⟩)).mono ?_; rintro e w6 ⟨rfl, hn6, hc6⟩)
        all_goals
          obtain ⟨a', c', a2', c2', hm', h1', h2'⟩ := hn6
          have hc7 : Chg (fun j => j = Y) wr w6 := ⟨⟨hc6.1.os, hc6.1.tape, hc6.1.output, hc6.1.size, hc6.1.block⟩, fun j hj n => hc6.2 j hj n⟩
          have NX : Hid (∃ a c a2 c2, Rm w6 Y ⟨doneW (tt + 1) L (ps.take (k + 1)), tt + 1, none⟩ a c a2 c2 ∧ (∀ j ∈ Kr a, j ∈ Kr ao ∨ w.heap.size + 1 ≤ j) ∧ (∀ j ∈ Kr a2, w.heap.size + 1 ≤ j) ∧ Chg (fun j => j = Y) W1 w6) := xhide ⟨a', c', a2', c2', by rw [HTK.out]; exact hm', fun j hj => (h1' j hj).elim (HA.out j) (fun q => .inr (by have q2 : wr.heap.size ≤ j := q; omega)), fun j hj => (h2' j hj).elim (HA2.out j) (fun q => by have q2 : wr.heap.size ≤ j := q; omega), HCG.out.trans hc7 (fun j _ q => q)⟩
          clear hm' h1' h2' hc6 hc7
          go_wp2_with fail
          go_roundw
          case rel => exact ⟨k + 1, by omega, by go_num, NX⟩
          case measure => simp [intOf]; omega
      · obtain rfl : k = ps.length := by omega
        have d1 : ¬ (ps.length : Int) < (ps.length : Int) := by omega
        rw [List.take_length] at hm
        have hr2 := (hcg.2 w.heap.size hRl hRY).trans HR1.out
        obtain ⟨⟨k0, k1, k2, k3, k4, k5⟩, g0, g1, g2, g3, g4, g5⟩ := rp_cells hr2
        have hR2 : w.heap.size < wr.heap.size := (Array.getElem?_eq_some_iff.1 hr2).1
        have FIN : Hid (Rn w (rpSet wr w.heap.size (.int .i64 0) (.string ⟨#[]⟩) (.bool false) (.slice none 0 0) (.int .i64 (tt + 1)) (.int .i64 0)) Y ao ao2 ⟨doneW (tt + 1) L ps, tt + 1, none⟩ ∧ Chg (fun j => j = Y) w (rpSet wr w.heap.size (.int .i64 0) (.string ⟨#[]⟩) (.bool false) (.slice none 0 0) (.int .i64 (tt + 1)) (.int .i64 0))) := xhide
          ⟨⟨_, _, _, _, hm.rp hRY (fun j hj => (hA j hj).elim (fun q => by have := H.out.l1 j q; omega) (fun q => by omega)) (fun j hj => by have := hA2 j hj; omega) _ _ _ _ _ _, fun j hj => (hA j hj).imp id (fun q => by omega), fun j hj => .inr (by have := hA2 j hj; omega)⟩,
           ((Chg.below (s := fun j => j = Y) HB1.out).trans hcg (fun j _ q => q)).trans (rp_chg wr w.heap.size _ _ _ _ _ _) (fun j hj q => by omega)⟩
        have HR2 := xhide hr2
        clear hm hr2 hA hA2 hcg HS
        go_wp2
        refine bodyPost_ret (v := rp0 0 .empty false (tt + 1)) (results_cell_row (p := 2) (ty := 41) rfl _ _ w.heap.size 41 _ (0, 0) _ rfl (rp_set HR2.out _ _ _ _ _ _) Try.underlying41 rfl (by kernel_rfl)) rfl ?_
        rw [HCM.out]
        exact ⟨rfl, FIN.out.1, FIN.out.2⟩
end
end Go.Proofs.Ytheidhkmmihjlaa
