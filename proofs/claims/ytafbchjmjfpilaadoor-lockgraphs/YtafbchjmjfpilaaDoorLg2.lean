/-
  Lg2: The document's graph: a row of 256 bools; its Wait. The program's Cycle of what is no worker.
-/
import Derived.Test.YtafbchjmjfpilaaDoorLg1
import Derived.Deep.OwnRows
import Derived.Lib.LazyBuf
import Derived.Deep.MidRow
set_option linter.unusedVariables false
set_option linter.unusedSimpArgs false
namespace Go.Proofs.YtafbchjmjfpilaaDoor
open Go.RowKit Go.Shelf
attribute [local go_sem] Oper.semAt_some

section
set_option maxHeartbeats 4000000
set_option maxRecDepth 100000
theorem cycle_out {k : Int} (hk : isW k = false) (g : Addr) (w : World) : Calls Tryd.prog 9 #[.pointer (some g), .int .i64 k] w fun e w' => e = .returned (.tuple #[.slice none 0 0, .bool false]) ∧ Below w.heap.size w w' := by
  have HW := hide2 (fun w => isWorker_any k w)
  rw [hk] at HW
  clear hk
  go_enter Tryd.func9, Tryd.ntmps9
  go_wp2_with fail
  refine (HW.out _).mono ?_
  rintro e w1 ⟨rfl, rfl⟩
  go_wp2
  have b0 := (Boxed.new ((w.alloc (.cells #[.pointer (some g)] 24)).alloc (.cells #[.int .i64 k] 3)) 33 (.slice none 0 0)).alloc (.cells #[.bool false] 4)
  have b1 := Boxed.new (((w.alloc (.cells #[.pointer (some g)] 24)).alloc (.cells #[.int .i64 k] 3)).alloc (.cells #[.slice none 0 0] 33)) 4 (.bool false)
  simp only [World.size_alloc] at b0 b1
  have y0 := b0.cell
  have y1 := b1.cell
  refine bodyPost_ret (v := .tuple #[.slice none 0 0, .bool false]) (by simp [results, Tryd.results9, go_sem, y0, y1]) rfl ⟨rfl, ?_⟩
  exact ((below2 w _ _).alloc (by simp; omega) _).alloc (by simp; omega) _

/-- The document's graph in memory: F i k, does i wait for k? -/
def Gr (w : World) (b : Nat) (F : Nat → Bool) : Prop := w.rowIs b 30 256 (fun j => .bool (F j))

/-- All but one block is as it was. -/
structure Oth (b : Nat) (w w' : World) : Prop where
  io : Io w w'
  size : w'.heap.size = w.heap.size
  other : ∀ k, k ≠ b → w'.heap[k]? = w.heap[k]?
theorem Oth.refl (b : Nat) (w : World) : Oth b w w := ⟨⟨rfl, rfl, rfl⟩, rfl, fun _ _ => rfl⟩
theorem Oth.trans {b : Nat} {x y z : World} (h : Oth b x y) (k : Oth b y z) : Oth b x z := ⟨h.io.trans k.io, k.size.trans h.size, fun i hi => (k.other i hi).trans (h.other i hi)⟩
theorem Oth.set (b i : Nat) (v : Value) (w : World) : Oth b w (w.setCell ⟨b, i, none⟩ v) := ⟨⟨rfl, rfl, rfl⟩, by simp [World.setCell], fun k hk => Below.heap_setCell _ _ _ k hk⟩
theorem Oth.drewN (b n : Nat) (w : World) : Oth b w (w.drewN n) := ⟨⟨rfl, rfl, rfl⟩, rfl, fun _ _ => rfl⟩
theorem Oth.sets (b : Nat) : ∀ (vs : List Value) (o : Nat) (w : World), Oth b w (w.setCells b o vs)
  | [], _, w => Oth.refl b w
  | v :: r, o, w => (Oth.set b o v w).trans (Oth.sets b r (o + 1) _)
theorem Oth.below {b n : Nat} {x y z : World} (h : Oth b y z) (k : Below n x y) (hn : n ≤ b) : Below n x z :=
  ⟨h.io.1.trans k.os, h.io.2.1.trans k.tape, h.io.2.2.trans k.output, by rw [h.size]; exact k.size, fun i hi => (h.other i (by omega)).trans (k.block i hi)⟩

/-- The bools behind a Wait that is right. -/
def gset (F : Nat → Bool) (n : Nat) (cs : List Int) (j : Nat) : Bool :=
  if n * 16 ≤ j ∧ j < n * 16 + 16 then cs.any (fun c => decide (c = ((j - n * 16 : Nat) : Int)) && !decide (c = (n : Int))) else F j
def z16 : Array Value := #[.bool false, .bool false, .bool false, .bool false, .bool false, .bool false, .bool false, .bool false, .bool false, .bool false, .bool false, .bool false, .bool false, .bool false, .bool false, .bool false]
theorem z16_one : z16.all (·.oneCell') = true := all_oneCell_toArray (cs := List.replicate 16 (.bool false)) (fun v hv => by rw [List.eq_of_mem_replicate hv]; rfl)
theorem gset_nil {w : World} {b n : Nat} {F : Nat → Bool} (h : Gr w b F) : Gr (w.setCells b (n * 16) z16.toList) b (gset F n []) := by
  refine (rowIs_setCells z16.toList (n * 16) w _ h).congr (fun j hj => ?_)
  have hl : z16.toList.length = 16 := rfl
  rw [hl]
  unfold gset
  by_cases q : n * 16 ≤ j ∧ j < n * 16 + 16
  · rw [if_pos q, if_pos q]
    obtain ⟨i, rfl⟩ : ∃ i, j = n * 16 + i := ⟨j - n * 16, by omega⟩
    have hi : i < 16 := by omega
    rw [Nat.add_sub_cancel_left]
    have e : z16.toList = List.replicate 16 (.bool false) := rfl
    rw [e, List.getElem?_replicate, if_pos hi]
    rfl
  · rw [if_neg q, if_neg q]
theorem gset_same {F : Nat → Bool} {n : Nat} {cs : List Int} {x : Int} (h : x = (n : Int)) : gset F n (cs ++ [x]) = gset F n cs := by
  funext j
  unfold gset
  rw [List.any_append]
  simp [h]
theorem gset_add {w : World} {b n x : Nat} {F : Nat → Bool} {cs : List Int} (h : Gr w b (gset F n cs)) (hx : x < 16) (hn : ¬ (x : Int) = (n : Int)) : Gr (w.setCell ⟨b, n * 16 + x, none⟩ (.bool true)) b (gset F n (cs ++ [(x : Int)])) := by
  refine (World.rowIs.set h (n * 16 + x) (.bool true)).congr (fun j hj => ?_)
  unfold gset
  rw [List.any_append]
  by_cases q : j = n * 16 + x
  · subst q
    rw [if_pos rfl, if_pos (by omega), Nat.add_sub_cancel_left]
    simp [hn]
  · rw [if_neg q]
    by_cases r : n * 16 ≤ j ∧ j < n * 16 + 16
    · rw [if_pos r, if_pos r]
      have : ¬ ((x : Int) = ((j - n * 16 : Nat) : Int)) := by omega
      simp [this]
    · rw [if_neg r, if_neg r]
theorem Gr.there {w : World} {b n : Nat} {F : Nat → Bool} (h : Gr w b F) (hn : n < 16) : w.there b (n * 16) 16 := fun j hj =>
  ⟨by rw [World.rowIs.cell h (i := n * 16 + j) (by omega)]; rfl, World.rowIs.frozen h _⟩

/-- What the document's Wait answers and leaves. -/
def RwR (w : World) (b : Nat) (F : Nat → Bool) (k : Int) (cs : List Int) (e : Ending) (w' : World) : Prop :=
  (isW k = true ∧ cs.all isW = true ∧ e = .returned (.int .i64 0) ∧ Oth b w w' ∧ Gr w' b (gset F k.toNat cs)) ∨
  ((isW k && cs.all isW) = false ∧ e = .returned (.int .i64 2) ∧ w' = w)

variable {w : World} {b : Nat} {F : Nat → Bool}
theorem rwait_any {ao : Option Addr} {len cap : Nat} {cs : List Int} (hG : Gr w b F) (hb : 0 < len → ∀ a : Addr, ao = some a → a.block ≠ b) (h : Ints .i64 w ao len cap cs) (me : Int) :
    Calls Tryd.prog 8 #[.pointer (some ⟨b, 0, none⟩), .int .i64 me, .slice ao len cap] w fun e w' => RwR w b F me cs e w' := by
  have HW := hide2 (fun k w => rworker_any k w)
  have hle := h.2.1
  have hmx := h.2.2.1
  unfold maxLen at hmx
  have hxl := h.1
  have H := hide2 h
  have HG := hide2 hG
  have HB := hide2 hb
  clear h hG hb
  go_enter Tryd.func8, Tryd.ntmps8
  go_wp2_with fail
  refine (HW.out _ _).mono ?_
  rintro e w1 ⟨rfl, hw1⟩
  subst hw1
  go_wp2_with fail
  go_loopw [7, 8] (fun m i wr => ∃ k : Nat, k ≤ len ∧ i = .int .i64 (k : Int) ∧ Hid (wr = w1) ∧ m = .bool (isW me && (cs.take k).all isW)) (fun _ i _ => len - (intOf i).toNat)
  case atStart => exact ⟨0, Nat.zero_le _, rfl, hide2 rfl, by simp⟩
  case round =>
    obtain ⟨k, hk, rfl, HWR, rfl⟩ := hrel
    have hwr := HWR.out
    subst hwr
    clear HWR
    by_cases hlt : k < len
    · obtain ⟨x, hx⟩ := some_at hxl hlt
      have HTK : Hid ((isW me && (cs.take (k + 1)).all isW) = ((isW me && (cs.take k).all isW) && isW x)) := hide2 (by rw [take_snoc hx, List.all_append, ← Bool.and_assoc]; simp)
      obtain ⟨g, off, rfl, hg, hc⟩ := H.out.num (by omega)
      have c0 := hc k hlt
      have hgx : cs.getD k 0 = x := by simp [List.getD, hx]
      rw [hgx] at c0
      have d2 : decide ((k : Int) < (len : Int)) = true := by simp; omega
      clear hc hgx hx
      generalize eo : (isW me && (cs.take k).all isW) = o at *
      clear eo
      have HWX := hide2 (fun w => HW.out x w)
      clear H HG HB HW
      generalize isW x = ix at *
      cases o <;>
      · go_wp2_with fail
        refine (HWX.out _).mono ?_
        rintro e w1 ⟨rfl, rfl⟩
        go_wp2_with fail
        go_roundw
        case rel => exact ⟨k + 1, by omega, by go_num, hide2 (by first | rfl | trivial), by rw [HTK.out]; simp⟩
        case measure => simp [intOf]; omega
    · have e1 : k = len := by omega
      subst e1
      have ec : cs.take k = cs := List.take_of_length_le (by omega)
      rw [ec]
      have d2 : decide ((k : Int) < (k : Int)) = false := by simp
      cases hok : (isW me && cs.all isW) with
      | false =>
        go_wp2
        go_ret
        exact .inr ⟨hok, rfl, rfl⟩
      | true =>
        obtain ⟨hme, hall⟩ := Bool.and_eq_true_iff.1 hok
        obtain ⟨n, rfl⟩ : ∃ n : Nat, me = (n : Int) := ⟨me.toNat, (isW_toNat hme).1.symm⟩
        have hn : n < 16 := by have := isW_iff.1 hme; omega
        obtain ⟨U, hU⟩ : ∃ U, U = wr := ⟨_, rfl⟩
        subst hU
        have HRET : Hid (∀ e w', e = .returned (.int .i64 0) → Oth b U w' → Gr w' b (gset F n cs) → RwR U b F (n : Int) cs e w') := hide2 (fun e w' h1 h2 h3 => .inl ⟨hme, hall, h1, h2, h3⟩)
        have HALL := hide2 hall
        have dn : (n : Int) < 16 := by omega
        clear hok hme hall HW
        have TH := hide2 (HG.out.there hn)
        have SZ : Hid ((Tryd.prog.info? 27).map (·.size) = some z16.size) := hide2 (by kernel_rfl)
        obtain ⟨W2, hW2⟩ : ∃ W2, W2 = U.setCells b (n * 16) z16.toList := ⟨_, rfl⟩
        have HW2 := hide2 hW2
        have START : Hid (Oth b U W2 ∧ Gr W2 b (gset F n (cs.take 0))) := hide2 (by rw [hW2]; exact ⟨Oth.sets b _ _ _, gset_nil HG.out⟩)
        clear hW2
        go_wp2_with (first
          | (refine wpList_store_mid rfl 27 (Operand.tmp 35) (Operand.tmp 32) rfl b (n * 16) z16 rfl rfl ?_ ?_ z16_one ?_
             · exact TH.out
             · exact SZ.out
             rw [← HW2.out]))
        clear TH SZ HW2
        go_wp2_with fail
        go_loopw [10] (fun i wr => ∃ q : Nat, q ≤ k ∧ i = .int .i64 (q : Int) ∧ Hid (Oth b U wr ∧ Gr wr b (gset F n (cs.take q)))) (fun i _ => k - (intOf i).toNat)
        case atStart => exact ⟨0, Nat.zero_le _, rfl, START⟩
        case round =>
          obtain ⟨q, hq, rfl, HQ⟩ := hrel
          clear START
          by_cases hlt2 : q < k
          · obtain ⟨x, hx⟩ := some_at hxl hlt2
            have hxw : isW x = true := by
              have := List.all_eq_true.1 HALL.out x (List.mem_of_getElem? hx)
              exact this
            obtain ⟨m, rfl⟩ : ∃ m : Nat, x = (m : Int) := ⟨x.toNat, (isW_toNat hxw).1.symm⟩
            have hm : m < 16 := by have := isW_iff.1 hxw; omega
            have HTK := hide2 (take_snoc hx)
            obtain ⟨g, off, rfl, hg, hc⟩ := H.out.num (by omega)
            have hgb := HB.out (by omega) _ rfl
            have c0 := hc q hlt2
            have hgx : cs.getD q 0 = (m : Int) := by simp [List.getD, hx]
            rw [hgx, ← World.cell?_of_block (w := U) (a := ⟨g, off + q, none⟩) (HQ.out.1.other g hgb)] at c0
            have d3 : decide ((q : Int) < (k : Int)) = true := by simp; omega
            have dm : (m : Int) < 16 := by omega
            have c1 := World.rowIs.cell HQ.out.2 (i := n * 16 + m) (by omega)
            have f1 := World.rowIs.frozen HQ.out.2 (n * 16 + m)
            clear hc hgx hx hxw hgb
            by_cases hmn : (m : Int) = (n : Int)
            · have NX : Hid (Oth b U wr ∧ Gr wr b (gset F n (cs.take (q + 1)))) := hide2 ⟨HQ.out.1, by rw [HTK.out, gset_same hmn]; exact HQ.out.2⟩
              have d4 : decide ((m : Int) = (n : Int)) = true := by simpa using hmn
              clear HQ HTK H HG HB HALL
              go_wp2_with fail
              go_roundw
              case rel => exact ⟨q + 1, by omega, by go_num, NX⟩
              case measure => simp [intOf]; omega
            · have NX : Hid (∀ z, Oth b U ((wr.setCell ⟨b, n * 16 + m, none⟩ (.bool true)).drewN z) ∧ Gr ((wr.setCell ⟨b, n * 16 + m, none⟩ (.bool true)).drewN z) b (gset F n (cs.take (q + 1)))) := hide2 (fun z => ⟨(HQ.out.1.trans (Oth.set b _ _ _)).trans (Oth.drewN b z _), by rw [HTK.out]; exact gset_add HQ.out.2 hm hmn⟩)
              have d4 : decide ((m : Int) = (n : Int)) = false := by simpa using hmn
              clear HQ HTK H HG HB HALL
              go_wp2_with fail
              go_region
              all_goals
                go_wp2_with fail
                go_roundw
                case rel => exact ⟨q + 1, by omega, by go_num, NX.out 1⟩
                case measure => simp [intOf]; omega
          · have e2 : q = k := by omega
            subst e2
            have d3 : decide ((q : Int) < (q : Int)) = false := by simp
            rw [ec] at HQ
            go_wp2
            go_ret
            exact HRET.out _ _ rfl HQ.out.1 HQ.out.2
end
end Go.Proofs.YtafbchjmjfpilaaDoor
