/-
  The document's own disk: Append to a file that is there.
-/
import Derived.Test.YtolaagbdnchhiaaRD8
import Derived.Maps.AppendAt
import Derived.Deep.RegionLaw
set_option linter.unusedVariables false
set_option linter.unusedSimpArgs false
namespace Go.Proofs.Ytolaagbdnchhiaa
open Go.RowKit Go.Maps

/-- An append in a region that draws, by its equation. -/
theorem step_append_eq {P : Program} {ops : Array Oper} {o : Oper} {a : Act} {w : World} {K : Act → World → Prop} {Q : Exit → Act → World → Prop} {E : Prop}
    (hg : o.guard = none) (s x : Operand) (t : TypeId) (hop : o.op = Op.call { callee := Callee.builtin Builtin.append, args := #[s, x], argTypes := #[t, t] })
    (v u v' : Value) (w' : World) (hs : a.eval s = v) (hx : a.eval x = u) (hrun : (Builtin.append_ #[t, t] o.type #[v, u]).run P w = .ok v' w') (hK : K (a.put o.dst v') w') :
    if Region.wanted o (yielded ops a.tmps) = true then Oper.wp P o a w K Q else E := by
  have hw : Region.wanted o (yielded ops a.tmps) = true := by simp [Region.wanted, hg]
  rw [if_pos hw]
  unfold Oper.wp
  simp [execOp, hop, resolve, invoke, builtin, hs, hx, hrun, Result.andThen]
  exact hK

section
variable {w w' : World} {r : Nat} {κ : Nat → Ro} {vF vO vL vN : Value} {φ : Nat → Nat} {β : Nat → Value} {P : PD} {cut : Int} {off : Bool}

/-- A file has grown. -/
theorem Wd.grew (h : Wd w r κ vF vO vL vN φ β P cut off) {i : Nat} (hi : i < P.fil.length) {y : List Int × Nat} (hy : P.fil[i]? = some y) {v' : Value} {ys : List Int} (ho : Own w' 0 v' ys) (F : Fr (fun j => j = r ∨ j = φ i ∨ (β i).ownBlock = some j) w w')
    (hat : v'.ownBlock = (β i).ownBlock ∨ ∃ g, v'.ownBlock = some g ∧ w.heap.size ≤ g) (hfl : RFl w' (φ i) v' y.2) {n' : Int} (hk : Rk w' r vF vO vL vN n' cut off) : Rres w w' r κ { P with fil := P.fil.set i (ys, y.2), n := n' } cut off := by
  obtain ⟨b1, b2, b3, b4⟩ := h.fil i y hy
  have sm : Sm κ (fun x => x = .dsk ∨ x = .fl i ∨ x = .byt i) w w' := ⟨F.size, fun j hj hn => F.block j hj fun e => hn (by
    rcases e with e | e | e
    · rw [e, h.kr]; exact .inl rfl
    · rw [e, b2]; exact .inr (.inl rfl)
    · rw [b4 j e]; exact .inr (.inr rfl))⟩
  have hlen : (P.fil.set i (ys, y.2)).length = P.fil.length := by simp
  -- whose the blocks are now
  obtain ⟨κ', hκ⟩ : ∃ κ' : Nat → Ro, κ' = fun j => if v'.ownBlock = some j then .byt i else κ j := ⟨_, rfl⟩
  have o1 : ∀ j, j < w.heap.size → κ' j = κ j := fun j hj => by
    rw [hκ]
    show (if v'.ownBlock = some j then Ro.byt i else κ j) = κ j
    by_cases e : v'.ownBlock = some j
    · rw [if_pos e]
      rcases hat with e2 | ⟨g, e2, hg⟩
      · rw [e2] at e
        exact (b4 j e).symm
      · rw [e2] at e
        cases e
        omega
    · rw [if_neg e]
  have o2 : ∀ g, v'.ownBlock = some g → κ' g = .byt i := fun g e => by
    rw [hκ]
    show (if v'.ownBlock = some g then Ro.byt i else κ g) = _
    rw [if_pos e]
  have lt : ∀ g, κ g ≠ .out → κ' g = κ g := fun g hg => o1 g (h.frs g hg)
  refine ⟨κ', ⟨vF, vO, vL, vN, φ, fun k => if k = i then v' else β k, hk, ?_, ?_, ?_, h.oO sm (by simp), ?_, h.oL sm (by simp), ?_, h.oN sm (by simp), ?_, fun k x hx => ?_, fun g hg => ?_⟩, o1, F.mono fun j _ e => ?_⟩
  · rw [lt r (by rw [h.kr]; exact Ro.noConfusion), h.kr]
  · show World.ownsRow _ 0 _ 1 _ (P.fil.set i (ys, y.2)).length ((List.range (P.fil.set i (ys, y.2)).length).map _)
    rw [hlen]
    exact h.oF sm (by simp)
  · intro g e
    rw [lt g (by rw [h.kF g e]; exact Ro.noConfusion), h.kF g e]
  · intro g e
    rw [lt g (by rw [h.kO g e]; exact Ro.noConfusion), h.kO g e]
  · intro g e
    rw [lt g (by rw [h.kL g e]; exact Ro.noConfusion), h.kL g e]
  · intro g e
    rw [lt g (by rw [h.kN g e]; exact Ro.noConfusion), h.kN g e]
  · have hx' : (P.fil.set i (ys, y.2))[k]? = some x := hx
    by_cases e : k = i
    · subst e
      rw [List.getElem?_set, if_pos rfl, if_pos hi] at hx'
      cases hx'
      simp only [if_true]
      exact ⟨hfl, by rw [lt _ (by rw [b2]; exact Ro.noConfusion)]; exact b2, ho, o2⟩
    · rw [List.getElem?_set, if_neg (Ne.symm e)] at hx'
      simp only [e, if_false]
      obtain ⟨d1, d2, d3, d4⟩ := h.oFil sm k x hx' (by simp [e]) (by simp [e])
      exact ⟨d1, by rw [lt _ (by rw [d2]; exact Ro.noConfusion)]; exact d2, d3, fun g eg => by rw [lt g (by rw [d4 g eg]; exact Ro.noConfusion)]; exact d4 g eg⟩
  · by_cases e : v'.ownBlock = some g
    · exact (World.ownsRow.lt ho g e).2
    · have e2 : κ' g = κ g := by
        rw [hκ]
        show (if v'.ownBlock = some g then Ro.byt i else κ g) = _
        rw [if_neg e]
      rw [e2] at hg
      exact Nat.lt_of_lt_of_le (h.frs g hg) F.size
  · rcases e with e | e | e
    · rw [e, h.kr]; exact Ro.noConfusion
    · rw [e, b2]; exact Ro.noConfusion
    · rw [b4 j e]; exact Ro.noConfusion

/-- 'append(v, x...)' of bytes onto an own row, as an equation. -/
theorem own_append {w : World} {v : Value} {xs : List Int} (hown : Own w 0 v xs) {ao : Option Addr} {len cap : Nat} {ys : List Int} (hsl : Sl w ao len cap ys) (ty : TypeId) (hlen : xs.length + len ≤ 140737488355328) (hb : Byt xs) :
    ∃ a' l' c' W, (Builtin.append_ #[32, 32] ty #[v, .slice ao len cap]).run Try.prog w = .ok (.slice a' l' c') W ∧ Own W 0 (.slice a' l' c') (xs ++ ys) ∧ w.grownBy W v.ownBlock ∧
      ((Value.slice a' l' c').ownBlock = v.ownBlock ∨ (Value.slice a' l' c').ownBlock = some w.heap.size) := by
  obtain ⟨i0, hi, hz0, hz1, hz2⟩ := info_parts Try.info5
  have hyb := hsl.2.2.2.1
  obtain ⟨h1, h2, h3, h4, h5, h6⟩ := hsl
  cases ao with
  | none =>
    obtain ⟨rfl, rfl⟩ := h5 rfl
    obtain rfl : ys = [] := List.eq_nil_of_length_eq_zero h1
    obtain ⟨a', l', c', rfl, _⟩ := hown.sl' hb
    exact ⟨a', l', c', w, run_append_owned_none (P := Try.prog) (w := w) 0 32 ty 5 i0 1 Try.underlying32 hi _ _ _ hown, by simpa using hown, World.grownBy.refl _ _, .inl rfl⟩
  | some ad =>
    obtain ⟨v', W, hr, ho, hg, _, hat⟩ := run_append_own_at (P := Try.prog) w 0 32 ty 5 i0 (.int .u8 0) 1 1 Try.underlying32 hi hz0 hz1 hz2 rfl (by decide) v xs.length (bc xs) hown ad len cap (bc ys) (by rw [bc_length]; omega) (fun j u hj => by
      obtain ⟨hj1, rfl⟩ := bc_get ys j u hj
      obtain ⟨b, off, e, _, hc⟩ := h6 (by omega)
      obtain rfl : ad = ⟨b, off, none⟩ := by simpa using e
      rw [addr_add]
      exact hc j (by omega)) (bc_one ys) (by unfold maxLen; omega) (by omega) (Nat.zero_le _)
    have ho2 : Own W 0 v' (xs ++ ys) := Own.of_bc (n := xs.length + len) (by rw [bc_append]; exact ho) (by simp; omega)
    obtain ⟨a', l', c', rfl, _⟩ := ho2.sl' (hb.append hyb)
    exact ⟨a', l', c', W, hr, ho2, hg, hat⟩

set_option maxHeartbeats 4000000 in
set_option maxRecDepth 100000 in
theorem ref_app_into (h : Wd w r κ vF vO vL vN φ β P cut off) (hP : P.inv) (s : ByteArray) (hs : s.size ≤ maxLen) (ao : Option Addr) (len cap : Nat) (xs : List Int) (hsl : Sl w ao len cap xs) (hout : 0 < len → ∀ b o, ao = some ⟨b, o, none⟩ → κ b = .out) (ho : offed P.n cut off = false) (hn : isName s = true) (i : Nat) (hp : plook (kl s) P.now = some i) (hb : ¬ (65536 ≤ P.n ∨ 262144 < len + (P.at i).1.length)) :
    Calls Try.prog 29 #[.pointer (some ⟨r, 0, none⟩), .string s, .slice ao len cap] w fun e w' => e = .returned (.int .i64 0) ∧ Rres w w' r κ { P with fil := P.fil.set i ((P.at i).1 ++ xs, (P.at i).2), n := P.n + 1 } cut false := by
  have hm := ref_may h.rk
  rw [ho] at hm
  have hg := hP.now
  have hgl := hg.len
  have hlo := hP.lo
  have hl : (len : Int) ≤ 262144 := by omega
  obtain ⟨a1, a2, a3, a4⟩ := hP.at hp
  have hil := (List.getElem?_eq_some_iff.1 a1).1
  have HW := hide2 h
  have HG := hide2 hg
  clear h hg
  go_enter Try.func29, Try.ntmps29
  go_wp2_with fail
  refine hm.mono ?_
  rintro e w1 ⟨rfl, hk, hF, hz⟩
  have h1 := HW.out.blk hF hk
  have hN1 := h1.rN
  have hi := refIsName_any s w1 hs
  rw [hn] at hi
  have hf := find_ref hN1 (by rw [nl_len]; exact Nat.le_trans hgl (by decide)) s
  rw [nl_find (D := P.now) HG.out.txt, hp] at hf
  replace hf : Calls Try.prog 58 #[vN, .string s] w1 fun e w' => e = .returned (.int .i64 (i : Int)) ∧ w' = w1 := hf
  obtain ⟨g, capF, rfl, hcell, hkg⟩ := h1.files (i := i) hil
  unfold rpt at hcell
  obtain ⟨b1, b2, b3, b4⟩ := h1.fil i _ a1
  obtain ⟨ab, lb, capb, hbv, hslb, _⟩ := b3.sl' a2
  have hlb : lb = (P.at i).1.length := hslb.1.symm
  have hsl1 : Sl w1.drew ao len cap xs := by
    obtain ⟨x1, x2, x3, x4, x5, x6⟩ := hsl
    refine ⟨x1, x2, x3, x4, x5, fun hl => ?_⟩
    obtain ⟨b, o, e, hlt, hc⟩ := x6 hl
    have hbr : b ≠ r := fun e2 => by
      have := hout hl b o e
      rw [e2, HW.out.kr] at this
      cases this
    refine ⟨b, o, e, Nat.lt_of_lt_of_le hlt hF.size, fun j hj => ?_⟩
    exact (World.cell?_of_block (w := w) (w' := w1.drew) (hF.block b hlt hbr)).trans (hc j hj)
  obtain ⟨av, lv, cv, W, hap, hownW, hgr, hat⟩ := own_append (w := w1.drew) (v := β i) (xs := (P.at i).1) b3 hsl1 32 (by omega) a2
  have hbb : ∀ j, (β i).ownBlock = some j → κ j = .byt i := b4
  have nfr : φ i ≠ r := fun e => by
    rw [e, HW.out.kr] at b2
    cases b2
  have nfb : some (φ i) ≠ (β i).ownBlock := fun e => by
    have := hbb _ e.symm
    rw [b2] at this
    cases this
  have nrb : some r ≠ (β i).ownBlock := fun e => by
    have := hbb _ e.symm
    rw [HW.out.kr] at this
    cases this
  have flW : RFl W (φ i) (β i) (P.at i).2 := (hgr.block (φ i) b1.lt nfb).trans b1
  have kW : Rk W r (.slice (some ⟨g, 0, none⟩) P.fil.length capF) vO vL vN P.n cut false := hk.same (hgr.block r hk.lt nrb)
  have qW0 := flW.cells.1
  have qWf := flW.free 0
  have fl3 : RFl (W.setCell ⟨φ i, 0, none⟩ (.slice av lv cv)) (φ i) (.slice av lv cv) (P.at i).2 := by
    have := Go.Joins.block_setCell (i := 0) flW (.slice av lv cv)
    exact this
  have k3 : Rk (W.setCell ⟨φ i, 0, none⟩ (.slice av lv cv)) r (.slice (some ⟨g, 0, none⟩) P.fil.length capF) vO vL vN P.n cut false := kW.same (Below.heap_setCell _ _ _ _ (by simpa using nfr.symm))
  have c34 := k3.cells.2.2.2.2.1
  have f34 := k3.free 4
  have k4 := k3.set.2.2.2.2.1 (P.n + 1)
  have fl4 : RFl ((W.setCell ⟨φ i, 0, none⟩ (.slice av lv cv)).setCell ⟨r, 4, none⟩ (.int .i64 (P.n + 1))) (φ i) (.slice av lv cv) (P.at i).2 := (Below.heap_setCell _ _ _ _ (by simpa using nfr)).trans fl3
  have ne1 : ∀ j, (Value.slice av lv cv).ownBlock = some j → j ≠ φ i ∧ j ≠ r := fun j e => by
    rcases hat with e2 | e2
    · rw [e2] at e
      exact ⟨fun q => nfb (by rw [← q, e]), fun q => nrb (by rw [← q, e])⟩
    · rw [e2] at e
      cases e
      have hq1 := b1.lt
      have hq2 := hk.lt
      exact ⟨fun q => by have : w1.drew.heap.size = w1.heap.size := rfl; omega, fun q => by have : w1.drew.heap.size = w1.heap.size := rfl; omega⟩
  have own4 : Own ((W.setCell ⟨φ i, 0, none⟩ (.slice av lv cv)).setCell ⟨r, 4, none⟩ (.int .i64 (P.n + 1))) 0 (.slice av lv cv) ((P.at i).1 ++ xs) := row_any hownW fun j e => (Below.heap_setCell _ _ _ _ (by simpa using (ne1 j e).2)).trans (Below.heap_setCell _ _ _ _ (by simpa using (ne1 j e).1))
  have F4 : Fr (fun j => j = r ∨ j = φ i ∨ (β i).ownBlock = some j) w1 ((W.setCell ⟨φ i, 0, none⟩ (.slice av lv cv)).setCell ⟨r, 4, none⟩ (.int .i64 (P.n + 1))) :=
    Fr.setCell (p := ⟨r, 4, none⟩) (Fr.setCell (p := ⟨φ i, 0, none⟩) (Fr.grown (w := w1) (w' := W) (row := (β i).ownBlock) ⟨hgr.os, hgr.tape, hgr.output, hgr.size, hgr.block⟩ (fun j e => .inr (.inr e))) (.inl (.inr (.inl rfl))) _) (.inl (.inl rfl)) _
  have hres := h1.grew (i := i) hil a1 own4 F4 (by
    rcases hat with e2 | e2
    · exact .inl e2
    · exact .inr ⟨_, e2, Nat.le_refl _⟩) fl4 k4
  have hfin : Rres w ((W.setCell ⟨φ i, 0, none⟩ (.slice av lv cv)).setCell ⟨r, 4, none⟩ (.int .i64 (P.n + 1))) r κ { P with fil := P.fil.set i ((P.at i).1 ++ xs, (P.at i).2), n := P.n + 1 } cut false := by
    obtain ⟨κ', q1, q2, q3⟩ := hres
    refine ⟨κ', q1, fun j hj => q2 j (by omega), ?_⟩
    exact (hF.mono (G := fun j => κ j ≠ .out) fun j _ e => by rw [e, HW.out.kr]; exact Ro.noConfusion).trans q3 (fun j e => .inl e)
  have HFin := hide2 hfin
  have hglt : g < w1.heap.size := by
    have := World.block_lt_of_cell? w1 _ hcell
    exact this
  have ngb : some g ≠ (β i).ownBlock := fun e => by
    have := hbb _ e.symm
    rw [hkg] at this
    cases this
  have hcellW : W.cell? ⟨g, i, none⟩ = some (.pointer (some ⟨φ i, 0, none⟩)) := (World.cell?_of_block (w := w1) (w' := W) (hgr.block g hglt ngb)).trans hcell
  obtain ⟨cW0, -, -, -, cW4, -, -⟩ := kW.cells
  obtain ⟨q0, q1⟩ := (hbv ▸ b1).cells
  obtain ⟨c0, c1, c2, c3, c4, c5, c6⟩ := hk.cells
  have hii : (i : Int) < (P.fil.length : Int) := by omega
  have hi0 : ¬ (i : Int) < 0 := by omega
  have hi0d : decide ((i : Int) < 0) = false := by simp
  have hi0e : decide (0 ≤ (i : Int)) = true := by simp
  rw [hbv] at hap qW0
  have d1 : decide (65536 ≤ P.n) = false := by simp; omega
  have i1 : ¬ 65536 ≤ P.n := by omega
  have d2 : decide ((262144 : Int) - (lb : Int) < (len : Int)) = false := by simp; omega
  have i2 : ¬ (262144 : Int) - (lb : Int) < (len : Int) := by omega
  have hlb2 : (lb : Int) ≤ 262144 := by omega
  have hP64 : P.n + 1 ≤ 9223372036854775807 := by omega
  clear hm hk hN1 h1 b1 b2 b3 b4 a1 a2 a3 a4 hslb hlb hsl1 hownW hgr hat flW kW fl3 k3 k4 fl4 ne1 own4 F4 hres hfin nfr nfb nrb hbb hbv hsl hout hb ngb hglt
  go_wp2_with fail
  refine hi.mono ?_
  rintro e w2 ⟨rfl, rfl⟩
  clear hi
  go_wp2_with fail
  refine hf.mono ?_
  rintro e w2 ⟨rfl, rfl⟩
  clear hf
  have HAP := hide2 hap
  clear hap
  go_wp2
  go_region_law (refine step_append_eq (by rfl) _ _ _ (by rfl) (.slice ab lb capb) (.slice ao len cap) (.slice av lv cv) W (by rfl) (by rfl) HAP.out ?_)
  all_goals
    go_wp2
    go_ret
    exact ⟨rfl, HFin.out⟩
end
end Go.Proofs.Ytolaagbdnchhiaa
