/-
  Lh4: Who waits for whom, which cycle a worker is in: any waits (LockGraphs).
-/
import Derived.Test.YtafbchjmjfpilaaDoorLh3
set_option linter.unusedVariables false
set_option linter.unusedSimpArgs false
namespace Go.Proofs.YtafbchjmjfpilaaDoor
open Go.RowKit Go.Shelf
attribute [local go_sem] Oper.semAt_some

theorem step_append_eq9 {P : Program} {ops : Array Oper} {o : Oper} {a : Act} {w : World} {K : Act → World → Prop} {Q : Exit → Act → World → Prop} {E : Prop}
    (hg : o.guard = none) (s x : Operand) (t : TypeId) (hop : o.op = Op.call { callee := Callee.builtin Builtin.append, args := #[s, x], argTypes := #[t, t] })
    (v u v' : Value) (w' : World) (hs : a.eval s = v) (hx : a.eval x = u) (hrun : ∀ ty, (Builtin.append_ #[t, t] ty #[v, u]).run P w = .ok v' w') (hK : K (a.put o.dst v') w') :
    if Region.wanted o (yielded ops a.tmps) = true then Oper.wp P o a w K Q else E := by
  have hw : Region.wanted o (yielded ops a.tmps) = true := by simp [Region.wanted, hg]
  rw [if_pos hw]
  unfold Oper.wp
  simp [execOp, hop, resolve, invoke, builtin, hs, hx, hrun o.type, Result.andThen]
  exact hK

section
set_option maxHeartbeats 8000000
set_option maxRecDepth 100000
variable {w : World} {ao : Option Addr} {len cap : Nat} {xs : List Wi}

theorem lockGraphs_walk (hT : Tab w) (h : Waits w ao len cap xs) (hbig : ∀ x ∈ xs, x.len ≤ 17592186043904) (me : Int) :
    Calls Tryd.prog 4 #[.slice ao len cap, .int .i64 me] w fun e w' => e = .returned (.bool true) ∧ Below w.heap.size w w' := by
  obtain ⟨i0, hi0, zi0, zi1, zi2⟩ := info_parts info3
  have HS := hide2 (shown_any w)
  have HN := hide2 (fun w => new_any w)
  have HT := hide2 hT
  have HX := hide2 h
  have HBIG := hide2 hbig
  have hle := h.1.2.1
  have hmx := h.1.2.2.1
  unfold maxLen at hmx
  have hxl := h.1.1
  clear h hT hbig
  go_enter Tryd.func4, Tryd.ntmps4
  go_wp2_with fail
  refine HS.out.mono ?_
  rintro e w1 ⟨rfl, hw1⟩
  have B1 := hide2 hw1
  clear hw1 HS
  go_wp2_with fail
  refine (HN.out _).mono ?_
  rintro e w2 ⟨rfl, hw2⟩
  have hzv := zero_graph
  have hzs : zG.size = 256 := by unfold zG; rw [List.size_toArray, List.length_replicate]
  have GB0 := hide2 (gb_new B1.out)
  rw [← hw2] at GB0
  have hw2s : w2.heap.size = w1.heap.size + 1 := by rw [hw2]; simp
  clear hw2 HN
  generalize zG = Z at hzv hzs GB0
  go_wp2_with fail
  clear hzv hzs
  generalize w1.heap.size + 1 = b at *
  generalize w1.heap.size = d at *
  go_loopw [8] (fun i wr => ∃ k : Nat, k ≤ len ∧ i = .int .i64 (k : Int) ∧ Hid (∃ Wt F, Jg Wt F ∧ Gb w wr d b Wt F)) (fun i _ => len - (intOf i).toNat)
  case atStart => exact ⟨0, Nat.zero_le _, rfl, hide2 ⟨_, _, jg_new, GB0.out⟩⟩
  case round =>
    obtain ⟨k, hk, rfl, HG⟩ := hrel
    obtain ⟨Wt, F, hJ, hG⟩ := HG.out
    clear HG GB0
    have HJ := hide2 hJ
    have HG := hide2 hG
    clear hJ hG
    by_cases hlt : k < len
    · obtain ⟨x, hx⟩ := some_at hxl hlt
      have hok := HX.out.2 x (List.mem_of_getElem? hx)
      have hxb := HBIG.out x (List.mem_of_getElem? hx)
      have hxo : x.os.length = x.len := hok.1
      obtain ⟨g, off, rfl, hgl, hc⟩ := HX.out.1.2.2.2 (by omega)
      have c0 := (HG.out.bl.cell (p := ⟨g, off + k * 2, none⟩) hgl).trans (hc k x hx 0 _ rfl)
      have c1 := (HG.out.bl.cell (p := ⟨g, off + k * 2 + 1, none⟩) hgl).trans (hc k x hx 1 _ rfl)
      have NJ := hide2 (HJ.out.wait HG.out.gm.len x)
      have HCELL : Hid (∀ {u : World} {Wt' F'}, Gb w u d b Wt' F' → u.cell? ⟨g, off + k * 2, none⟩ = some (.int .i64 x.w) ∧ u.cell? ⟨g, off + k * 2 + 1, none⟩ = some (.slice x.ao x.len x.cap)) := hide2 (fun hu => ⟨(hu.bl.cell (p := ⟨g, off + k * 2, none⟩) hgl).trans (hc k x hx 0 _ rfl), (hu.bl.cell (p := ⟨g, off + k * 2 + 1, none⟩) hgl).trans (hc k x hx 1 _ rfl)⟩)
      have hmk : ∀ u : World, (Instr.makeSlice 33 (.int .i64 0) (.int .i64 ((x.len : Int) + 1))).run Tryd.prog u = .ok (.slice (some ⟨u.heap.size, 0, none⟩) 0 (x.len + 1)) (u.alloc (.cells (madeCells #[.int .i64 0] (x.len + 1)) 3)) := by
        intro u
        have := run_make (P := Tryd.prog) u 33 3 i0 (.int .i64 0) Tryd.underlying33 hi0 zi0 .i64 .i64 0 ((x.len : Int) + 1) (by omega) (by omega) (by rw [zi2]; omega) (by omega)
        rw [this, zi1]
        have e : ((x.len : Int) + 1).toNat = x.len + 1 := by omega
        rw [e]
        simp only [Nat.mul_one, Value.cells]
        rfl
      have OC0 : Hid (∀ q, Oc w ((wr.alloc (.cells (madeCells #[.int .i64 0] (x.len + 1)) 3)).drewN q) d b wr.heap.size Wt F x.len (fun _ => .int .i64 0)) := hide2 (fun q => (oc_made HG.out x.len).drewN q)
      have HAP : Hid (∀ q ty, (Builtin.append_ #[33, 33] ty #[.slice (some ⟨wr.heap.size, 0, none⟩) 0 (x.len + 1), .slice x.ao x.len x.cap]).run Tryd.prog ((wr.alloc (.cells (madeCells #[.int .i64 0] (x.len + 1)) 3)).drewN q) = .ok (.slice (some ⟨wr.heap.size, 0, none⟩) x.len (x.len + 1)) (((wr.alloc (.cells (madeCells #[.int .i64 0] (x.len + 1)) 3)).drewN q).setCells wr.heap.size 0 (x.os.map (Value.int .i64)))) := hide2 (fun q ty => oc_append (OC0.out q) hok rfl ty)
      have OC1 : Hid (∀ q, Oc w (((wr.alloc (.cells (madeCells #[.int .i64 0] (x.len + 1)) 3)).drewN q).setCells wr.heap.size 0 (x.os.map (Value.int .i64))) d b wr.heap.size Wt F x.len (fun j => .int .i64 (x.os.getD j 0))) := hide2 (fun q => (OC0.out q).fill hxo)
      have d2 : decide ((k : Int) < (len : Int)) = true := by simp; omega
      clear hc hx HX HBIG
      clear hxl
      generalize madeCells #[.int .i64 0] (x.len + 1) = MC at *
      have hgl2 : g < wr.heap.size := Nat.lt_of_lt_of_le hgl HG.out.bl.size
      have hwrp : IntKind.i64.wrap ((x.len : Int) + 1) = (x.len : Int) + 1 := by rw [IntKind.wrap_i64]; omega
      have cg0 : ∀ O, (wr.alloc O).cell? ⟨g, off + k * 2 + 1, none⟩ = some (.slice x.ao x.len x.cap) := fun O => (World.cell?_of_block (w := wr) (a := ⟨g, off + k * 2 + 1, none⟩) (Below.heap_alloc wr O g hgl2)).trans c1
      go_wp2_with fail
      go_region_law (refine step_append_eq9 (by rfl) _ _ _ (by rfl) (.slice (some ⟨wr.heap.size, 0, none⟩) 0 (x.len + 1)) (.slice x.ao x.len x.cap) _ _ (by rfl) (by rfl) (fun ty => HAP.out 1 ty) ?_)
      all_goals
        obtain ⟨X4, hX4⟩ : ∃ X4, X4 = (((wr.alloc (.cells MC 3)).drewN 1).setCells wr.heap.size 0 (x.os.map (Value.int .i64))) := ⟨_, rfl⟩
        have HO1 := hide2 (OC1.out 1)
        rw [← hX4] at HO1 ⊢
        clear hX4 OC1 OC0 HAP hmk cg0 c0 c1
        obtain ⟨c0, c1⟩ := HCELL.out HO1.out.gb
        have HWT := hide2 (oc_wait HO1.out HT.out hxo hxb)
        generalize wr.heap.size = o at *
        go_wp2_with fail
        refine HWT.out.mono ?_
        rintro e w5 ⟨rfl, hw5⟩
        have HO2 := hide2 hw5
        have HRW : Hid (∀ q, Calls Tryd.prog 8 #[.pointer (some ⟨b, 0, none⟩), .int .i64 x.w, .slice x.ao x.len x.cap] (w5.drewN q) fun e w' => e = .returned (.int .i64 (wtE x)) ∧ Oc w w' d b o (wtN Wt x) (wtF F x) x.len (fun j => .int .i64 (x.os.getD j 0))) := hide2 (fun q => oc_rwait (HO2.out.drewN q) hok)
        obtain ⟨c3, c4⟩ := HCELL.out hw5.gb
        clear hw5 c0 c1 HO1 HWT
        go_wp2_with fail
        go_region_with (go_at_call 8; refine (by first | exact HRW.out 1 | exact HRW.out 0 : Calls Tryd.prog 8 #[.pointer (some ⟨b, 0, none⟩), .int .i64 x.w, .slice x.ao x.len x.cap] _ fun e w' => e = .returned (.int .i64 (wtE x)) ∧ Oc w w' d b o (wtN Wt x) (wtF F x) x.len (fun j => .int .i64 (x.os.getD j 0))).mono ?_; rintro e w2 ⟨rfl, hw2⟩)
        all_goals
          have HO3 : Hid (∃ f, Oc w w2 d b o (wtN Wt x) (wtF F x) x.len f) := hide2 ⟨_, hw2⟩
          clear hw2
          go_wp2_with fail
          clear HRW HO2 c3 c4 HCELL
          generalize wtF F x = F' at *
          generalize wtN Wt x = Wt' at *
          generalize wtE x = er at *
          go_loopw [12] (fun z wr => ∃ y : Nat, y ≤ x.len ∧ z = .int .i64 (y : Int) ∧ Hid (∃ f, Oc w wr d b o Wt' F' x.len f)) (fun z _ => x.len - (intOf z).toNat)
          case atStart => exact ⟨0, Nat.zero_le _, rfl, by first | exact HO3 | (obtain ⟨f, hf⟩ := HO3.out; exact hide2 ⟨f, hf.drewN _⟩)⟩
          case round =>
            obtain ⟨y, hy, rfl, HO4⟩ := hrel
            clear HO3
            by_cases hyl : y < x.len
            · obtain ⟨f, hf⟩ := HO4.out
              have q1 := World.rowIs.cell hf.row (i := y) (by omega)
              have q2 := World.rowIs.frozen hf.row y
              have d5 : decide ((y : Int) < (x.len : Int)) = true := decide_eq_true (by omega)
              have NX := hide2 (hf.set (i := y) (.int .i64 3))
              clear hf HO4
              generalize f y = fy at q1
              go_wp2_with fail
              go_roundw
              case rel => exact ⟨y + 1, by omega, by go_num, hide2 ⟨_, NX.out⟩⟩
              case measure => simp [intOf]; omega
            · have d5 : decide ((y : Int) < (x.len : Int)) = false := decide_eq_false (by omega)
              have NX : Hid (∃ Wt F, Jg Wt F ∧ Gb w wr d b Wt F) := hide2 (by obtain ⟨f, hf⟩ := HO4.out; exact ⟨_, _, NJ.out, hf.gb⟩)
              clear HO4
              go_wp2_with fail
              go_roundw
              case rel => exact ⟨k + 1, by omega, by go_num, NX⟩
              case measure => simp [intOf]; omega
    · have d2 : decide ((k : Int) < (len : Int)) = false := by simp; omega
      clear HX HBIG hxl hw2s
      have HCQ : Hid (∀ m, cl (dE F) m = cl (gE Wt) m ∧ cb (dE F) m = cb (gE Wt) m) := hide2 (cl_eq HJ.out)
      go_wp2_with fail
      go_loopw [13] (fun i wr => ∃ m : Nat, m ≤ 18 ∧ i = .int .i64 ((m : Int) - 1) ∧ Hid (Gb w wr d b Wt F)) (fun i _ => 18 - (intOf i + 1).toNat)
      case atStart => exact ⟨0, by omega, rfl, HG⟩
      case round =>
        obtain ⟨m, hm, rfl, HG5⟩ := hrel
        clear HG
        by_cases hml : m < 18
        · have d3 : decide ((m : Int) - 1 ≤ 16) = true := decide_eq_true (by omega)
          obtain ⟨u, hu⟩ : ∃ u : Int, u = (m : Int) - 1 := ⟨_, rfl⟩
          rw [← hu] at d3 ⊢
          have HU := hide2 hu
          have hu16 : u ≤ 16 := by omega
          have hu17 : -1 ≤ u := by omega
          clear hu
          have HC := hide2 (gb_cycle HG5.out HT.out u)
          go_wp2_with fail
          refine HC.out.mono ?_
          rintro e w3 ⟨v, rfl, hr, hb3⟩
          have HG6 := hide2 (HG5.out.below hb3)
          have HR := hide2 hr
          clear HC hr hb3
          have HRC := hide2 (gb_rcycle HG6.out u)
          rw [(HCQ.out u).1, (HCQ.out u).2] at HRC
          go_wp2_with fail
          refine HRC.out.mono ?_
          rintro e w4 ⟨v2, rfl, hr2, hb4⟩
          have HG7 := hide2 (HG6.out.below hb4)
          have hr1 := HR.out.keep hb4
          obtain ⟨a1, cp1, rfl, _⟩ := hr1.form
          obtain ⟨a2, cp2, rfl, _⟩ := hr2.form
          have HI := hide2 (ints_same hr1.seq hr2.seq)
          clear HRC hr1 hr2 hb4 HR HG5 HG6
          generalize cb (gE Wt) u = bb at *
          go_wp2_with fail
          refine HI.out.mono ?_
          rintro e w5 ⟨rfl, q, rfl⟩
          clear HI
          cases bb
          all_goals
            go_wp2_with fail
            go_roundw
            case rel => exact ⟨m + 1, by omega, by (have := HU.out; go_num), hide2 (HG7.out.drewN q)⟩
            case measure => (have := HU.out; simp [intOf]; omega)
        · have e1 : m = 18 := by omega
          subst e1
          have HC := hide2 (gb_cycle HG5.out HT.out me)
          go_wp2_with fail
          refine HC.out.mono ?_
          rintro e w3 ⟨v, rfl, hr, hb3⟩
          have HG6 := hide2 (HG5.out.below hb3)
          have HR := hide2 hr
          clear HC hr hb3
          have HRC := hide2 (gb_rcycle HG6.out me)
          rw [(HCQ.out me).1, (HCQ.out me).2] at HRC
          go_wp2_with fail
          refine HRC.out.mono ?_
          rintro e w4 ⟨v2, rfl, hr2, hb4⟩
          have HG7 := hide2 (HG6.out.below hb4)
          have hr1 := HR.out.keep hb4
          obtain ⟨a1, cp1, rfl, _⟩ := hr1.form
          obtain ⟨a2, cp2, rfl, _⟩ := hr2.form
          have HI := hide2 (ints_same hr1.seq hr2.seq)
          clear HRC hr1 hr2 hb4 HR HG5 HG6
          generalize cb (gE Wt) me = bb at *
          go_wp2_with fail
          refine HI.out.mono ?_
          rintro e w5 ⟨rfl, q, rfl⟩
          clear HI
          cases bb
          all_goals
            go_wp2
            go_ret
            exact ⟨rfl, (HG7.out.drewN q).bl⟩
end
end Go.Proofs.YtafbchjmjfpilaaDoor
