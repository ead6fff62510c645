/-
  Ld2: Which one of a cycle goes, by the program (LockVictims).
-/
import Derived.Test.YtbmgclnhooaniaaDoorLd1
import Derived.Test.YtbmgclnhooaniaaDoorLqR
set_option linter.unusedVariables false
set_option linter.unusedSimpArgs false
namespace Go.Proofs.YtbmgclnhooaniaaDoor
open Go.RowKit Go.Shelf
attribute [local go_sem] Oper.semAt_some

/-- The one that goes, step by step. -/
def vs1 (l : List Int) (s : Nat × Bool) (a : Nat) : Nat × Bool := if s.2 = false ∨ ag l s.1 < ag l a then (a, true) else s
def vst (l : List Int) (pre : List Nat) : Nat × Bool := pre.foldl (vs1 l) (0, false)
theorem vst_snoc (l : List Int) (pre : List Nat) (a : Nat) : vst l (pre ++ [a]) = vs1 l (vst l pre) a := by unfold vst; rw [List.foldl_append]; rfl
theorem vst_ok (l : List Int) : ∀ (n : Nat) (pre : List Nat), pre.length = n → pre.Pairwise (· < ·) → (pre = [] ∧ vst l pre = (0, false)) ∨ ∃ v, Lk.Vc (ag l) pre v ∧ vst l pre = (v, true) := by
  intro n
  induction n with
  | zero => intro pre h _; exact .inl ⟨List.length_eq_zero_iff.1 h, by rw [List.length_eq_zero_iff.1 h]; rfl⟩
  | succ n ih =>
    intro pre h hs
    obtain ⟨q, a, rfl⟩ : ∃ q a, pre = q ++ [a] := by
      have hne : pre ≠ [] := fun e => by subst e; simp at h
      exact ⟨pre.dropLast, pre.getLast hne, (List.dropLast_concat_getLast hne).symm⟩
    have hs' := List.pairwise_append.1 hs
    refine .inr ?_
    rw [vst_snoc]
    rcases ih q (by simpa using h) hs'.1 with ⟨rfl, e⟩ | ⟨v, hv, e⟩
    · rw [e]; exact ⟨a, Lk.Vc.one _ _, by simp [vs1]⟩
    · rw [e]
      have hva : v < a := hs'.2.2 v hv.mem a (by simp)
      by_cases c : ag l v < ag l a
      · exact ⟨a, hv.new (.inl c), by simp [vs1, c]⟩
      · exact ⟨v, hv.old (by omega), by simp [vs1, c]⟩
theorem rds_rise (x : Nat) : (Lk.rds x).Pairwise (· < ·) := List.Pairwise.filter _ List.pairwise_lt_range
theorem mem_cm {cs : List Int} {k : Nat} : k ∈ Lk.rds (cm cs) ↔ k ∈ wk cs := by
  rw [Lk.mem_rds]
  unfold cm
  rw [Lk.cme_bit]
  constructor
  · rintro ⟨_, h⟩; simpa using h
  · intro h; exact ⟨wk_lt k h, by simpa using h⟩
theorem vic_of {cs l : List Int} (hall : cs.all isW = true) : vic cs l (((vst l (Lk.rds (cm cs))).1 : Int), (vst l (Lk.rds (cm cs))).2) := by
  rcases vst_ok l _ (Lk.rds (cm cs)) rfl (rds_rise _) with ⟨h, e⟩ | ⟨v, hv, e⟩
  · rw [e]
    refine .inr ⟨.inl ?_, rfl⟩
    cases cs with
    | nil => rfl
    | cons x cs =>
      have hx : isW x = true := by simp at hall; exact hall.1
      have : x.toNat ∈ Lk.rds (cm (x :: cs)) := mem_cm.2 (by unfold wk; simp [hx])
      rw [h] at this; cases this
  · rw [e]
    refine .inl ⟨hall, fun q => ?_, v, vc_set hv (fun k => mem_cm), rfl⟩
    subst q
    have := mem_cm.1 hv.mem
    cases this

section
set_option maxHeartbeats 4000000
set_option maxRecDepth 100000
variable {w : World} {ao bo : Option Addr} {len cap len2 cap2 : Nat} {cs l : List Int}
theorem Victim_any (hT : Tab w) (h : Ints .i64 w ao len cap cs) (h2 : Ints .i64 w bo len2 cap2 l) :
    Calls Tryd.prog 28 #[.slice ao len cap, .slice bo len2 cap2] w fun e w' => (∃ a : Int × Bool, vic cs l a ∧ e = .returned (.tuple #[.int .i64 a.1, .bool a.2])) ∧ Below w.heap.size w w' := by
  have HW := hide2 (fun k w => isWorker_any k w)
  have HO := hide2 (fun k hk w => only_any k hk w)
  have hle := h.2.1
  have hmx := h.2.2.1
  have hle2 := h2.2.1
  have hmx2 := h2.2.2.1
  unfold maxLen at hmx hmx2
  have hxl := h.1
  have hxl2 := h2.1
  have bA0 := hide2 (Boxed.new w 32 (.slice bo len2 cap2))
  have B0 : Below w.heap.size w (w.alloc (.cells #[.slice bo len2 cap2] 32)) := below1 w _
  have H := hide2 (h.keep B0)
  have H2 := hide2 h2
  have HT := hide2 hT
  have HB0 := hide2 B0
  clear h h2 hT B0
  refine (callsIn_wide (n := 5)).1 ?_
  refine callsIn_of_wp_marks Tryd.func28 rfl trivial ?_ rfl
  simp only [Tryd.ntmps28, List.size_toArray, List.length_cons, List.length_nil, Nat.reduceAdd, Nat.reduceSub, Array.replicate_succ, Array.replicate_zero, List.push_toArray, List.append_toArray, List.nil_append, List.cons_append]
  gi_wp2
  obtain ⟨W0, hW0⟩ : ∃ W, w.alloc (.cells #[.slice bo len2 cap2] 32) = W := ⟨_, rfl⟩
  rw [hW0] at bA0 HB0 H ⊢
  have hs0 : W0.heap.size = w.heap.size + 1 := by rw [← hW0]; simp
  clear hW0
  gi_loopw [6, 14] (fun m i wr => ∃ k : Nat, k ≤ len ∧ i = .int .i64 (k : Int) ∧ Hid (wr = W0) ∧ Hid ((cs.take k).all isW = true) ∧ m = .int .u16 (cm (cs.take k) : Int)) (fun _ i _ => len - (intOf i).toNat)
  case atStart => exact ⟨0, Nat.zero_le _, rfl, hide2 rfl, hide2 rfl, rfl⟩
  case round =>
    obtain ⟨k, hk, rfl, HWR, HALL, rfl⟩ := hrel
    have hwr := HWR.out
    subst hwr
    clear HWR
    by_cases hlt : k < len
    · obtain ⟨x, hx⟩ := some_at hxl hlt
      have HTK := hide2 (take_snoc hx)
      have HWX := hide2 (fun w => HW.out x w)
      obtain ⟨g, off, rfl, hg, hc⟩ := H.out.num (by omega)
      have c0 := hc k hlt
      have hgx : cs.getD k 0 = x := by simp [List.getD, hx]
      rw [hgx] at c0
      have d1 : (k : Int) < (len : Int) := by omega
      have d2 : decide ((k : Int) < (len : Int)) = true := by simpa using d1
      have HMEM := hide2 (List.mem_of_getElem? hx)
      clear hc hgx hx
      cases hxw : isW x with
      | false =>
        rw [hxw] at HWX
        have RET : Hid (vic cs l (0, false)) := hide2 (.inr ⟨.inr (by
          rw [List.all_eq_false]
          exact ⟨x, HMEM.out, by simp [hxw]⟩), rfl⟩)
        gi_wp2
        refine ⟨trivial, ?_⟩
        refine (callsIn_wide.2 (HWX.out _)).mono ?_
        rintro e w1 ⟨rfl, rfl⟩
        gi_wp2
        exact ⟨_, results_tmp2 rfl _ _ _, ⟨_, RET.out, rfl⟩, HB0.out⟩
      | true =>
        rw [hxw] at HWX
        obtain ⟨n, rfl⟩ : ∃ n : Nat, x = (n : Int) := ⟨x.toNat, (isW_toNat hxw).1.symm⟩
        have hn : n < 16 := by have := isW_iff.1 hxw; omega
        have NALL : Hid ((cs.take (k + 1)).all isW = true) := hide2 (by rw [HTK.out, List.all_append, HALL.out]; simp [hxw])
        have NCM : Hid (cm (cs.take (k + 1)) = Lk.rdd (cm (cs.take k)) n) := hide2 (by rw [HTK.out, cm_snoc, if_pos hxw]; rfl)
        have HON := hide2 (fun w => HO.out n hn w)
        have hor := or16 (cm_lt (cs.take k)) (pow16_lt hn)
        rw [or_bit, ← NCM.out] at hor
        clear NCM HALL HTK hxw
        generalize ec : cm (cs.take (k + 1)) = c2 at *
        have EC := hide2 ec
        clear ec
        generalize cm (cs.take k) = c1 at *
        generalize 2 ^ n = q2 at *
        gi_wp2
        refine ⟨trivial, ?_⟩
        refine (callsIn_wide.2 (HWX.out _)).mono ?_
        rintro e w1 ⟨rfl, rfl⟩
        gi_wp2
        refine ⟨trivial, ?_⟩
        refine (callsIn_wide.2 (HON.out _)).mono ?_
        rintro e w1 ⟨rfl, rfl⟩
        gi_wp2
        go_roundw
        case rel => exact ⟨k + 1, by omega, by go_num, hide2 (by first | rfl | trivial), NALL, by rw [EC.out]⟩
        case measure => simp [intOf]; omega
    · have e1 : k = len := by omega
      subst e1
      have ec : cs.take k = cs := List.take_of_length_le (by omega)
      rw [ec] at HALL ⊢
      have RET := hide2 (vic_of (l := l) HALL.out)
      have hlt3 := cm_lt cs
      have d2 : decide ((k : Int) < (k : Int)) = false := by simp
      generalize cm cs = s at *
      clear H HO HW
      gi_wp2
      refine ⟨trivial, ?_⟩
      refine (all_in Fence.wide _ trivial rfl _ _).mono ?_
      rintro e w1 ⟨rfl, rfl⟩
      gi_wp2
      have bV := ((Boxed.new wr 3 (.int .i64 0)).alloc (.cells #[.bool false] 4)).alloc (.cells #[.int .u16 (s : Int)] 56)
      have bF := (Boxed.new (wr.alloc (.cells #[.int .i64 0] 3)) 4 (.bool false)).alloc (.cells #[.int .u16 (s : Int)] 56)
      have bS := Boxed.new ((wr.alloc (.cells #[.int .i64 0] 3)).alloc (.cells #[.bool false] 4)) 56 (.int .u16 (s : Int))
      have bA := ((bA0.out.alloc (.cells #[.int .i64 0] 3)).alloc (.cells #[.bool false] 4)).alloc (.cells #[.int .u16 (s : Int)] 56)
      simp only [World.size_alloc, hs0] at bV bF bS
      have hB3 : Below w.heap.size w (((wr.alloc (.cells #[.int .i64 0] 3)).alloc (.cells #[.bool false] 4)).alloc (.cells #[.int .u16 (s : Int)] 56)) := ((HB0.out.alloc (by omega) _).alloc (by simp; omega) _).alloc (by simp; omega) _
      have hs3 : (((wr.alloc (.cells #[.int .i64 0] 3)).alloc (.cells #[.bool false] 4)).alloc (.cells #[.int .u16 (s : Int)] 56)).heap.size = w.heap.size + 4 := by simp; omega
      obtain ⟨W3, hW3⟩ : ∃ W, ((wr.alloc (.cells #[.int .i64 0] 3)).alloc (.cells #[.bool false] 4)).alloc (.cells #[.int .u16 (s : Int)] 56) = W := ⟨_, rfl⟩
      rw [hW3] at bV bF bS bA hB3 hs3 ⊢
      clear hW3 HB0 bA0
      have h00 := HT.out.1
      refine wpIn_rangeFunc_ownG (n := 5) rfl (by decide) (gf := 49) (lb := #[.pointer (some ⟨w.heap.size + 1 + 1 + 1, 0, none⟩)]) rfl trivial (enters_of Tryd.func49 (by kernel_rfl) rfl)
        (all_stops 4 (w.heap.size + 1 + 1 + 1) s hlt3 W3 (HT.out.keep hB3) (by omega) bS.cell) belowK_t (belowK_b (by omega)) (Below.refl _ _) (fun _ => rfl)
        (fun pre W => ((Boxed W (w.heap.size + 1) 3 (nv (vst l pre).1) ∧ Boxed W (w.heap.size + 1 + 1) 4 (.bool (vst l pre).2)) ∧ Boxed W w.heap.size 32 (.slice bo len2 cap2)) ∧ Below w.heap.size w W)
        (fun _ _ _ => False)
        (OwnFrom.and (OwnFrom.and (OwnFrom.and (Own.from (boxed_own _ _ (fun (pre : List Nat) => nv (vst l pre).1)) _) (Own.from (boxed_own _ _ (fun (pre : List Nat) => Value.bool (vst l pre).2)) _)) (Own.from (boxed_own _ _ (fun (pre : List Nat) => Value.slice bo len2 cap2)) _)) (ownFrom_below (Nat.le_refl _) (by omega)))
        (fun _ _ _ _ _ hs _ _ => hs)
        ⟨⟨⟨bV, bF⟩, bA⟩, hB3⟩
        (fun x => { tmps := #[.slice ao k cap, .slice bo len2 cap2, undef, .pointer (some ⟨w.heap.size, 0, none⟩), u4, u5, .int .u16 (s : Int), undef, u8, .pointer (some ⟨w.heap.size + 1, 0, none⟩), .pointer (some ⟨w.heap.size + 1 + 1, 0, none⟩), nv x, .slice ao k cap, .int .i64 (k : Int), .int .i64 (k : Int), .bool false, u16, u17, u18, u19, u20, u21, u22, u23, u24, u25, .int .u16 (s : Int), .func (.func 49) #[] #[.pointer (some ⟨w.heap.size + 1 + 1 + 1, 0, none⟩)], nv x, undef, undef, undef, undef, undef, undef, undef, undef, undef, undef, undef, undef, undef, undef], defers := [] }) ?assign ?body ?done ?stop
      case assign =>
        intro ll x W K hK
        unfold nv at hK ⊢
        gi_wp2
        exact hK
      case body =>
        rintro ll pre x W ⟨⟨⟨bv, bf⟩, ba⟩, hB⟩ hltp
        have hsn := vst_snoc l pre x
        have HI := hide2 (H2.out.keep hB)
        generalize eP : vst l pre = P at *
        obtain ⟨pv, pf⟩ := P
        simp only at bv bf hsn
        have c1 := bv.cell
        have c2 := bf.cell
        have c3 := ba.cell
        have f1 := bv.frozen
        have f2 := bf.frozen
        have HAX := hide2 (fun u (h : Ints .i64 u bo len2 cap2 l) => ageOf_any h x)
        have HAV := hide2 (fun u (h : Ints .i64 u bo len2 cap2 l) => ageOf_any h pv)
        have mixed : Tryd.prog.follows .mixedOrders = true := by kernel_rfl
        have hfn : Fence.wide.fn 46 := trivial
        have HFIN : Hid (∀ q, KeepsFrom W3.heap.size W (((W.drewN q).setCell ⟨w.heap.size + 1, 0, none⟩ (nv x)).setCell ⟨w.heap.size + 1 + 1, 0, none⟩ (.bool true)) ∧ Below w.heap.size W (((W.drewN q).setCell ⟨w.heap.size + 1, 0, none⟩ (nv x)).setCell ⟨w.heap.size + 1 + 1, 0, none⟩ (.bool true)) ∧
            (Boxed (((W.drewN q).setCell ⟨w.heap.size + 1, 0, none⟩ (nv x)).setCell ⟨w.heap.size + 1 + 1, 0, none⟩ (.bool true)) (w.heap.size + 1) 3 (nv x) ∧
            Boxed (((W.drewN q).setCell ⟨w.heap.size + 1, 0, none⟩ (nv x)).setCell ⟨w.heap.size + 1 + 1, 0, none⟩ (.bool true)) (w.heap.size + 1 + 1) 4 (.bool true)) ∧
            Boxed (((W.drewN q).setCell ⟨w.heap.size + 1, 0, none⟩ (nv x)).setCell ⟨w.heap.size + 1 + 1, 0, none⟩ (.bool true)) w.heap.size 32 (.slice bo len2 cap2)) := hide2 (fun q => by
          have bv' : Boxed (W.drewN q) (w.heap.size + 1) 3 (nv pv) := bv
          have bf' : Boxed (W.drewN q) (w.heap.size + 1 + 1) 4 (.bool pf) := bf
          have ba' : Boxed (W.drewN q) w.heap.size 32 (.slice bo len2 cap2) := ba
          have kd : KeepsOthers W (W.drewN q) := ⟨Nat.le_refl _, fun _ _ h _ => h⟩
          have bd : Below w.heap.size W (W.drewN q) := below_drewN (Below.refl _ _) q
          exact ⟨((kd.trans (KeepsOthers.setCell _ _ _)).trans (KeepsOthers.setCell _ _ _)).from _,
            (bd.setCell (p := ⟨w.heap.size + 1, 0, none⟩) (by show w.heap.size ≤ w.heap.size + 1; omega) _).setCell (p := ⟨w.heap.size + 1 + 1, 0, none⟩) (by show w.heap.size ≤ w.heap.size + 1 + 1; omega) _,
            ⟨(bv'.set (nv x)).other (by omega) _, (bf'.other (by omega) (nv x)).set _⟩, (ba'.other (by omega) (nv x)).other (by omega) _⟩)
        have HKEEP : Hid (∀ q, KeepsFrom W3.heap.size W (W.drewN q) ∧ Below w.heap.size W (W.drewN q)) := hide2 (fun q => ⟨(⟨Nat.le_refl _, fun _ _ h _ => h⟩ : KeepsOthers W (W.drewN q)).from _, below_drewN (Below.refl _ _) q⟩)
        have BV := hide2 bv
        have BF := hide2 bf
        have BA := hide2 ba
        have HSN := hide2 hsn
        clear bv bf ba hsn
        unfold nv at *
        cases pf with
        | false =>
          have EN : Hid (vst l (pre ++ [x]) = (x, true)) := hide2 (by rw [HSN.out]; simp [vs1])
          gi_wp2
          refine round_region ll (by kernel_rfl) (by kernel_rfl) (by kernel_rfl) ?_
          repeat (gi_big_quiet_step (fail))
          refine wpQuietIn_nil ?_
          intro W' hW'
          obtain ⟨nq, hq⟩ := hW'
          subst hq
          gi_wp2
          obtain ⟨h1, h2, h3, h4⟩ := HFIN.out nq
          refine ⟨h1, h2.mono (by omega), ⟨?_, h4⟩, hB.trans h2⟩
          rw [EN.out]
          exact h3
        | true =>
          by_cases hc : ag l pv < ag l x
          · have EN : Hid (vst l (pre ++ [x]) = (x, true)) := hide2 (by rw [HSN.out]; simp [vs1, hc])
            have HX : Hid (∀ q, CallsIn Fence.wide 2 Tryd.prog 46 #[.slice bo len2 cap2, .int .i64 (x : Int)] (W.drewN q) fun e w'' => e = .returned (.int .i64 (ag l x)) ∧ ∃ n, w'' = W.drewN n) := hide2 (fun q => callsIn_wide.2 ((HAX.out (W.drewN q) HI.out).mono (fun e w' h => ⟨h.1, q, h.2⟩)))
            have HV : Hid (∀ q, CallsIn Fence.wide 2 Tryd.prog 46 #[.slice bo len2 cap2, .int .i64 (pv : Int)] (W.drewN q) fun e w'' => e = .returned (.int .i64 (ag l pv)) ∧ ∃ n, w'' = W.drewN n) := hide2 (fun q => callsIn_wide.2 ((HAV.out (W.drewN q) HI.out).mono (fun e w' h => ⟨h.1, q, h.2⟩)))
            clear HAX HAV
            generalize ag l pv = a1 at *
            generalize ag l x = a2 at *
            gi_wp2
            refine round_region ll (by kernel_rfl) (by kernel_rfl) (by kernel_rfl) ?_
            repeat (gi_big_quiet_step (fail))
            gi_big_quiet_step (exact HX.out _)
            repeat (gi_big_quiet_step (fail))
            gi_big_quiet_step (exact HV.out _)
            repeat (gi_big_quiet_step (fail))
            refine wpQuietIn_nil ?_
            intro W' hW'
            obtain ⟨nq, hq⟩ := hW'
            subst hq
            gi_wp2
            obtain ⟨h1, h2, h3, h4⟩ := HFIN.out nq
            refine ⟨h1, h2.mono (by omega), ⟨?_, h4⟩, hB.trans h2⟩
            rw [EN.out]
            exact h3
          · have EN : Hid (vst l (pre ++ [x]) = (pv, true)) := hide2 (by rw [HSN.out]; simp [vs1, hc])
            have HX : Hid (∀ q, CallsIn Fence.wide 2 Tryd.prog 46 #[.slice bo len2 cap2, .int .i64 (x : Int)] (W.drewN q) fun e w'' => e = .returned (.int .i64 (ag l x)) ∧ ∃ n, w'' = W.drewN n) := hide2 (fun q => callsIn_wide.2 ((HAX.out (W.drewN q) HI.out).mono (fun e w' h => ⟨h.1, q, h.2⟩)))
            have HV : Hid (∀ q, CallsIn Fence.wide 2 Tryd.prog 46 #[.slice bo len2 cap2, .int .i64 (pv : Int)] (W.drewN q) fun e w'' => e = .returned (.int .i64 (ag l pv)) ∧ ∃ n, w'' = W.drewN n) := hide2 (fun q => callsIn_wide.2 ((HAV.out (W.drewN q) HI.out).mono (fun e w' h => ⟨h.1, q, h.2⟩)))
            clear HAX HAV
            generalize ag l pv = a1 at *
            generalize ag l x = a2 at *
            gi_wp2
            refine round_region ll (by kernel_rfl) (by kernel_rfl) (by kernel_rfl) ?_
            repeat (gi_big_quiet_step (fail))
            gi_big_quiet_step (exact HX.out _)
            repeat (gi_big_quiet_step (fail))
            gi_big_quiet_step (exact HV.out _)
            repeat (gi_big_quiet_step (fail))
            refine wpQuietIn_nil ?_
            intro W' hW'
            obtain ⟨nq, hq⟩ := hW'
            subst hq
            gi_wp2
            obtain ⟨h1, h2⟩ := HKEEP.out nq
            refine ⟨h1, h2.mono (by omega), ⟨?_, BA.out⟩, hB.trans h2⟩
            rw [EN.out]
            exact ⟨BV.out, BF.out⟩
      case done =>
        rintro D ys W hD rfl ⟨⟨⟨bv, bf⟩, ba⟩, hB⟩ hK
        have c1 := bv.cell
        have c2 := bf.cell
        unfold nv at c1
        generalize vst l (Lk.rds s) = p at *
        obtain ⟨p0, p1⟩ := p
        have HB2 := hide2 hB
        have HK := hide2 hK
        clear bv bf ba hB hK
        gi_wp2
        gi_quiet (fail)
        gi_wp2
        have hK2 : (W.drewN nq).heap[D]? = some (.deferred (some [])) := HK.out
        refine ⟨by simp, .inl ⟨_, _, rfl, run_takeDeferred hK2, ?_⟩⟩
        refine ⟨_, results_tmp2 rfl _ _ _, ⟨_, RET.out, rfl⟩, ?_⟩
        exact (below_drewN HB2.out nq).trans (belowK_b (w := w) (Nat.le_refl _) _ D _ _ (by omega) hK2 rfl rfl)
      case stop =>
        rintro D c pre W _ _ h _
        exact h.elim
end
end Go.Proofs.YtbmgclnhooaniaaDoor
