/-
  The reader's take: the commits among bodies.
-/
import Derived.Test.YthfcjfhaoabdeaaGreatDoorRz36
import Derived.Test.YthfcjfhaoabdeaaGreatDoorRz47
import Derived.Test.YthfcjfhaoabdeaaGreatDoorRz32
import Derived.Test.YthfcjfhaoabdeaaGreatDoorRz31
import Derived.Test.YthfcjfhaoabdeaaGreatDoorRz30
import Derived.Test.YthfcjfhaoabdeaaGreatDoorRz41
set_option linter.unusedVariables false
set_option linter.unusedSimpArgs false
namespace Go.Proofs.YthfcjfhaoabdeaaGreatDoor
open Go.RowKit

set_option maxRecDepth 100000 in
set_option maxHeartbeats 8000000 in
theorem rtake_any {w : World} {r : Nat} {v : Value} {R : Rdr} {A : Nat → Prop} {ao : Option Addr} {len cap : Nat} {bs : List (List Int)} (hp : Pl w ao len cap bs) (hl : R.cs.length + len ≤ 1000000000) (hm : Rm w r v R) (hc : CRow w A v R.cs) (hr : ¬ A r) (hA : ∀ j, A j → j < w.heap.size)
    (hps : ∀ b off, ao = some ⟨b, off, none⟩ → ¬ A b ∧ b ≠ r) (hpb : ∀ b off, ao = some ⟨b, off, none⟩ → ∀ i, i < len → ∀ a l c, w.cell? ⟨b, off + i, none⟩ = some (.slice a l c) → ∀ g o, a = some ⟨g, o, none⟩ → ¬ A g ∧ g ≠ r) :
    Calls Tryz.prog 136 #[.pointer (some ⟨r, 0, none⟩), .slice ao len cap] w fun e w' => (((∃ k v', coms bs = some k ∧ e = .returned (.bool true) ∧ Rm w' r v' { R with cs := R.cs ++ k } ∧ CRow w' (Land.more A w w') v' (R.cs ++ k)) ∨ coms bs = none ∧ e = .returned (.bool false))) ∧ Fr (fun j => A j ∨ j = r) w w' := by
  obtain ⟨i0, hi, hz0, hz1, hz2⟩ := info_parts infoC
  have hrl := hm.lt
  have HP := hid8 hp
  have HL : Hid (bs.length = len) := hid8 hp.1
  have hlen : (len : Int) ≤ 1000000000 := by omega
  have HM := hid8 hm
  have HC := hid8 hc
  have HPS := hid8 hps
  have HPB := hid8 hpb
  have HA := hid8 hA
  clear hp hm hc hps hpb hA
  go_enter Tryz.func136, Tryz.ntmps136
  go_wp2
  go_loopw [6, 7, 8, 9, 12] (fun _ _ _ _ i wr => ∃ (k : Nat) (ks : List Cm) (vk : Value), k ≤ len ∧ i = .int .i64 (k : Int) ∧ Hid (coms (bs.take k) = some ks) ∧ ks.length ≤ k ∧ Rm wr r vk { R with cs := R.cs ++ ks } ∧ CRow wr (Land.more A w wr) vk (R.cs ++ ks) ∧ Fr (fun j => A j ∨ j = r) w wr) (fun _ _ _ _ i _ => len - (intOf i).toNat)
  case atStart => exact ⟨0, [], v, by omega, rfl, hid8 rfl, by simp, by simpa using HM.out, by simpa using HC.out.mono (fun j _ h => .inl h), Fr.refl _ _⟩
  case round =>
    clear HM HC
    obtain ⟨k, ks, vk, hk, rfl, hks, hkl, hm, hc, hf⟩ := hrel
    have hsz := hf.size
    by_cases hkl2 : k < len
    · obtain ⟨p1, p2, p3, p4⟩ := HP.out
      obtain ⟨b, off, rfl, hbl, hcell⟩ := p4 (by omega)
      obtain ⟨a, l, c, q, hsl⟩ := hcell k hkl2
      have q1 : wr.cell? ⟨b, off + k, none⟩ = some (.slice a l c) := (hf.cell (p := ⟨b, off + k, none⟩) hbl (fun e => e.elim (HPS.out b off rfl).1 (HPS.out b off rfl).2)).trans q
      have hsl1 : Sl wr a l c (bs.getD k []) := by
        obtain ⟨g1, g2, g3, g4, g5, g6⟩ := hsl
        refine ⟨g1, g2, g3, g4, g5, fun h0 => ?_⟩
        obtain ⟨b', o', e', hlt', hc'⟩ := g6 h0
        exact ⟨b', o', e', by omega, fun i hi => (hf.cell (p := ⟨b', o' + i, none⟩) hlt' (fun e => e.elim (HPB.out b off rfl k hkl2 a l c q b' o' e').1 (HPB.out b off rfl k hkl2 a l c q b' o' e').2)).trans (hc' i hi)⟩
      have ek : bs.take (k + 1) = bs.take k ++ [bs.getD k []] := by
        have hk2 : k < bs.length := by have := HL.out; omega
        rw [← List.take_append_getElem hk2]
        congr 2
        simp [List.getD, List.getElem?_eq_getElem hk2]
      have HE : Hid (coms (bs.take (k + 1)) = if bs.getD k [] = [] then some ks else if (vC (bs.getD k [])).2 = 0 then some (ks ++ [oC (bs.getD k [])]) else none) := hid8 (by rw [ek]; exact coms_snoc hks.out _)
      have hxl : (bs.getD k []).length = l := hsl1.1
      have hkl3 : (k : Int) < (len : Int) := by omega
      have hll : (l : Int) ≤ 9223372036854775807 := by have := hsl1.2.1; have := hsl1.2.2.1; unfold maxLen at this; omega
      generalize hX : bs.getD k [] = X at *
      have HF := hid8 hf
      clear hcell p4 q hsl ek hf
      by_cases hl0 : l = 0
      · have hX0 : X = [] := List.eq_nil_of_length_eq_zero (by omega)
        have HE0 : Hid (coms (bs.take (k + 1)) = some ks) := hid8 (by rw [HE.out, if_pos hX0])
        subst hl0
        have HM := hid8 hm
        have HC := hid8 hc
        clear hX hX0 hsl1 HE hm hc
        go_wp2
        go_roundw
        case rel => exact ⟨k + 1, ks, vk, by omega, by go_num, HE0, by omega, HM.out, HC.out, HF.out⟩
        case measure => simp [intOf]; omega
      · have hXn : ¬ X = [] := fun e => hl0 (by rw [e] at hxl; simpa using hxl.symm)
        have hl1 : ((l : Int) == 0) = false := by simp; omega
        have hl2 : ¬ (l : Int) = 0 := by omega
        have HPC := hid8 (PCommit_any hsl1)
        have HE1 : Hid (coms (bs.take (k + 1)) = if (vC X).2 = 0 then some (ks ++ [oC X]) else none) := hid8 (by rw [HE.out, if_neg hXn])
        have HM := hid8 hm
        have HC := hid8 hc
        clear hX hsl1 HE hm hc hXn hxl
        go_wp2_with fail
        refine HPC.out.mono ?_
        rintro e w1 ⟨u, rfl, hu, hb1⟩
        obtain ⟨au, lu, cu, rfl⟩ := erow_form hu
        have hz1' := hb1.size
        have k0 := heap_alloc_new w1 (.cells #[.int .i64 0, .slice none 0 0] 27)
        have kc0 : (w1.alloc (.cells #[.int .i64 0, .slice none 0 0] 27)).cell? ⟨w1.heap.size, 0, none⟩ = some (.int .i64 0) := by rw [Go.Joins.cell_of_block k0]; rfl
        have kc1 : (w1.alloc (.cells #[.int .i64 0, .slice none 0 0] 27)).cell? ⟨w1.heap.size, 1, none⟩ = some (.slice none 0 0) := by rw [Go.Joins.cell_of_block k0]; rfl
        have kf0 : (w1.alloc (.cells #[.int .i64 0, .slice none 0 0] 27)).frozen? ⟨w1.heap.size, 0, none⟩ = false := Go.Joins.unfrozen_of_block k0 0
        have kf1 : (w1.alloc (.cells #[.int .i64 0, .slice none 0 0] 27)).frozen? ⟨w1.heap.size, 1, none⟩ = false := Go.Joins.unfrozen_of_block k0 1
        have HU := hid8 hu
        have HB1 := hid8 hb1
        have HX1 : Hid (cc (oC X, .slice au lu cu) = [.int .i64 (oC X).time, .slice au lu cu]) := hid8 rfl
        generalize hT : (oC X).time = T at *
        generalize hPl : (vC X).1 = pl at *
        by_cases her : (vC X).2 = 0
        · rw [her]
          have HE2 : Hid (coms (bs.take (k + 1)) = some (ks ++ [oC X])) := hid8 (by rw [HE1.out, if_pos her])
          have bA : Below w1.heap.size w1 (w1.alloc (.cells #[.int .i64 T, .slice au lu cu] 27)) := (Below.refl _ _).alloc (Nat.le_refl _) _
          have zA : (w1.alloc (.cells #[.int .i64 T, .slice au lu cu] 27)).heap.size = w1.heap.size + 1 := by simp
          have hA2 := heap_alloc_new w1 (.cells #[.int .i64 T, .slice au lu cu] 27)
          have c0 : (w1.alloc (.cells #[.int .i64 T, .slice au lu cu] 27)).cell? ⟨w1.heap.size, 0, none⟩ = some (.int .i64 T) := by rw [Go.Joins.cell_of_block hA2]; rfl
          have c1 : (w1.alloc (.cells #[.int .i64 T, .slice au lu cu] 27)).cell? ⟨w1.heap.size, 1, none⟩ = some (.slice au lu cu) := by rw [Go.Joins.cell_of_block hA2]; rfl
          have hrw1 : r < w1.heap.size := by omega
          clear HE1 HPC hu hb1 her k0 hA2
          go_wp2
          clear kc0 kc1 kf0 kf1
          have m2 := (HM.out.below HB1.out).below bA
          obtain ⟨ps, e0, r1, r2, r3⟩ := (HC.out.below HB1.out).below bA
          have hu2 : WRow (w1.alloc (.cells #[.int .i64 T, .slice au lu cu] 27)) 0 (.slice au lu cu) (oC X).ws := row_low (row_on HU.out (fun j e => bA.block j (World.ownsRow.lt HU.out j e).2)) (Nat.zero_le _)
          have hub : ∀ g, (Value.slice au lu cu).ownBlock = some g → wr.heap.size ≤ g ∧ g < w1.heap.size := fun g e => World.ownsRow.lt HU.out g e
          generalize hW2 : w1.alloc (.cells #[.int .i64 T, .slice au lu cu] 27) = W2 at *
          have hpl : ps.length ≤ R.cs.length + ks.length := by rw [← List.length_map (f := fun p : Cm × Value => p.1), e0]; simp
          have hrW : r < W2.heap.size := by omega
          have hcW : w1.heap.size < W2.heap.size := by omega
          have ZA := hid8 zA
          clear zA
          obtain ⟨-, -, q2⟩ := m2.cells
          have q6 := m2.free 2
          have q2a : (W2.alloc (.cells #[.int .i64 T, .slice au lu cu] 27)).cell? ⟨r, 2, none⟩ = some vk := (m2.below ((Below.refl _ _).alloc (Nat.le_refl _) _)).cells.2.2
          have hrv : ∀ j, vk.ownBlock = some j → j ≠ r := fun j e e2 => by
            rcases r2 j e with q | q
            · exact hr (e2 ▸ q)
            · have := q.1; omega
          have HNW := hid8 (cell_two_new W2 (.int .i64 T) (.slice au lu cu) 27)
          have R1 := hid8 r1
          have R3 := hid8 r3
          have M2 := hid8 m2
          have HRV := hid8 hrv
          have HU2 := hid8 hu2
          clear r1 r3 m2 hrv hu2
          go_region_law ((refine step_append_lies _ (by rfl) _ _ _ (by rfl) 0 27 i0 (.agg #[.int .i64 0, .slice none 0 0]) 2 32 Tryz.underlying23 hi hz0 hz1 hz2 rfl (by decide) vk ps.length (ps.flatMap cc) (by rfl) (row_on R1.out fun j e => Below.heap_alloc _ _ j (World.ownsRow.lt R1.out j e).2) ⟨W2.heap.size, 0, none⟩ 1 1 [.int .i64 T, .slice au lu cu] (by rfl) rfl HNW.out (by intro u hu; simp at hu; rcases hu with rfl | rfl <;> rfl) (by decide) (by unfold maxLen; omega) (by omega) (Nat.zero_le _) (W2.heap.size + 1) (by simp) ?_; intro g cap3 w3 hown hgrow hat hlt2; have k3 : Rm w3 r vk { R with cs := R.cs ++ ks } := M2.out.same ((hgrow.block r (by simp; omega) (fun e => HRV.out r e.symm rfl)).trans (Below.heap_alloc _ _ r hrW)); have q2 := k3.cells.2.2; have q6 := k3.free 2))
          all_goals
            have hz3 : W2.heap.size + 1 ≤ w3.heap.size := by have := hgrow.size; simpa using this
            have F1 : Fr (fun j => A j ∨ j = r) w W2 := (HF.out.trans (Fr.below HB1.out) (fun j e => .inl e)).trans (Fr.below bA) (fun j e => .inl e)
            have F3 : Fr (fun j => A j ∨ j = r) w w3 := ((F1.alloc _).drewN 1).trans (Fr.grown (F := fun j => vk.ownBlock = some j) hgrow (fun j e => e)) (fun j e => by
              rcases r2 j e with q | q
              · exact .inl (.inl q)
              · exact .inr q.1)
            have hv' : ∀ j, (Value.slice (some ⟨g, 0, none⟩) (ps.length + 1) cap3).ownBlock = some j → Land.more A w w3 j := fun j e => by
              simp only [Value.ownBlock, Option.some.injEq] at e
              subst e
              rcases hat with q | q
              · rcases r2 g q with q | q
                · exact .inl q
                · exact .inr ⟨q.1, hlt2⟩
              · exact .inr ⟨by omega, hlt2⟩
            have hup : ∀ j, Land.more A w wr j → Land.more A w w3 j := fun j q => by
              rcases q with q | q
              · exact .inl q
              · exact .inr ⟨q.1, by have := q.2; omega⟩
            have C3 : CRow w3 (Land.more A w w3) (.slice (some ⟨g, 0, none⟩) (ps.length + 1) cap3) (R.cs ++ ks ++ [oC X]) := by
              refine CRow.push (B := 0) (w := (W2.alloc (.cells #[.int .i64 T, .slice au lu cu] 27)).drew) (v := vk) (u := .slice au lu cu) (c := oC X) e0 (row_on R1.out fun j e => Below.heap_alloc _ _ j (World.ownsRow.lt R1.out j e).2) (fun p hp => ⟨row_on (R3.out p hp).1 fun j e => Below.heap_alloc _ _ j (World.ownsRow.lt (R3.out p hp).1 j e).2, fun j e => hup j ((R3.out p hp).2 j e)⟩) (row_on HU2.out fun j e => Below.heap_alloc _ _ j (World.ownsRow.lt HU2.out j e).2) (fun j e => ?_) hgrow (by rw [HX1.out]; exact hown) hv'
              have := hub j e
              exact .inr ⟨by omega, by omega⟩
            have HM4 := hid8 (show Rm (w3.setCell ⟨r, 2, none⟩ (.slice (some ⟨g, 0, none⟩) (ps.length + 1) cap3)) r (.slice (some ⟨g, 0, none⟩) (ps.length + 1) cap3) { R with cs := R.cs ++ (ks ++ [oC X]) } from (Go.Joins.block_setCell k3 _).trans rfl)
            have HF4 := hid8 (F3.setCell (p := ⟨r, 2, none⟩) (.inl (.inr rfl)) (.slice (some ⟨g, 0, none⟩) (ps.length + 1) cap3))
            have HC4 := hid8 (show CRow (w3.setCell ⟨r, 2, none⟩ (.slice (some ⟨g, 0, none⟩) (ps.length + 1) cap3)) (Land.more A w (w3.setCell ⟨r, 2, none⟩ (.slice (some ⟨g, 0, none⟩) (ps.length + 1) cap3))) (.slice (some ⟨g, 0, none⟩) (ps.length + 1) cap3) (R.cs ++ (ks ++ [oC X])) from by
              rw [← List.append_assoc]
              refine (C3.same (fun j hj => Below.heap_setCell _ _ _ _ (fun e => ?_))).mono (fun j _ hj => ?_)
              · have e : j = r := e
                subst e
                rcases hj with q | q
                · exact hr q
                · have := q.1; omega
              · rcases hj with q | q
                · exact .inl q
                · exact .inr ⟨q.1, by simpa [World.setCell] using q.2⟩)
            clear hown hgrow hat k3 q2 q6 C3 F3 F1 hv' hup R1 R3 M2 HRV HU2 HNW hW2
            go_wp2
            go_roundw
            case rel => exact ⟨k + 1, ks ++ [oC X], _, by omega, by go_num, HE2, by simp; omega, HM4.out, HC4.out, HF4.out⟩
            case measure => simp [intOf]; omega
        · have HE2 : Hid (coms bs = none) := hid8 (by
            rw [← List.take_append_drop (k + 1) bs]
            exact coms_none (by rw [HE1.out, if_neg her]))
          generalize hEr : (vC X).2 = er at *
          have her2 : (er != 0) = true := by simpa using her
          clear HE1 HPC hu hb1 k0
          go_wp2
          go_ret
          refine ⟨.inr ⟨HE2.out, rfl⟩, (HF.out.trans (Fr.below HB1.out) (fun j e => .inl e)).alloc _⟩
    · obtain rfl : k = len := by omega
      have HX : Hid (coms bs = some ks) := hid8 (by
        have h := hks.out
        rwa [show bs.take k = bs from by rw [← HL.out]; exact List.take_length] at h)
      have HM := hid8 hm
      have HC := hid8 hc
      have HF := hid8 hf
      clear hm hc hf hks
      go_wp2
      go_ret
      exact ⟨.inl ⟨ks, vk, HX.out, rfl, HM.out, HC.out⟩, HF.out⟩
end Go.Proofs.YthfcjfhaoabdeaaGreatDoor

/-
  The reader's read of a segment. (Printed by gen_w13.py.)
-/
set_option linter.unusedVariables false
set_option linter.unusedSimpArgs false
namespace Go.Proofs.YthfcjfhaoabdeaaGreatDoor
open Go.RowKit

/-- Bodies as a slice that is read; where they lie. -/
theorem Bs.pl {w : World} {base : Nat} {v : Value} {bs : List (List Int)} (h : Bs w base v bs) : ∃ ao cap, v = .slice ao bs.length cap ∧ Pl w ao bs.length cap bs ∧ (∀ b off, ao = some ⟨b, off, none⟩ → base ≤ b ∧ off = 0) ∧
    (∀ b off, ao = some ⟨b, off, none⟩ → ∀ i, i < bs.length → ∀ a l c, w.cell? ⟨b, off + i, none⟩ = some (.slice a l c) → ∀ g o, a = some ⟨g, o, none⟩ → base ≤ g) := by
  obtain ⟨cs, G, h1, h2, h3⟩ := h
  have hcl : cs.length = bs.length := by simpa using h1.1
  rcases h1.2 with ⟨rfl, h0⟩ | ⟨g, cap, cur, rfl, hg, hh, hn, hm, hs, ht⟩
  · exact ⟨none, 0, by rw [h0], by rw [h0]; exact ⟨h0, Nat.le_refl _, Nat.zero_le _, fun h => absurd h (by omega)⟩, (fun b off e => by cases e), (fun b off e => by cases e)⟩
  · have hcell : ∀ i, i < bs.length → w.cell? ⟨g, 0 + i, none⟩ = cs[i]? := fun i hi => by
      rw [Nat.zero_add, Go.Joins.cell_of_block hh, ← Array.getElem?_toList]
      have e1 : (cur.toList.take (bs.length * 1))[i]? = cs[i]? := by rw [ht]
      rwa [List.getElem?_take_of_lt (by omega)] at e1
    refine ⟨_, cap, rfl, ⟨rfl, hn, hm, fun hl => ⟨g, 0, rfl, (Array.getElem?_eq_some_iff.1 hh).1, fun i hi => ?_⟩⟩, fun b off e => by simp only [Option.some.injEq, Addr.mk.injEq] at e; omega, fun b off e i hi a l c hc g' o' e' => ?_⟩
    · obtain ⟨u, q1, b1, ⟨cur2, b2⟩, a3, c3, rfl, b4, b5⟩ := h2 i hi
      exact ⟨a3, _, c3, by rw [hcell i hi, q1], b4⟩
    · simp only [Option.some.injEq, Addr.mk.injEq] at e
      obtain ⟨rfl, rfl, -⟩ := e
      rw [hcell i hi] at hc
      obtain ⟨u, q1, b1, ⟨cur2, b2⟩, a3, c3, rfl, b4, b5⟩ := h2 i hi
      rw [q1] at hc
      simp only [Option.some.injEq, Value.slice.injEq] at hc
      obtain ⟨rfl, -, -⟩ := hc
      rw [b5 g' o' e']
      exact b1
/-- The slice without its first. -/
theorem Pl.tail {w : World} {g cap n : Nat} {b : List Int} {bs : List (List Int)} (h : Pl w (some ⟨g, 0, none⟩) (n + 1) cap (b :: bs)) : ∃ ao, (∀ u : World, (Instr.slice 152 (.slice (some ⟨g, 0, none⟩) (n + 1) cap) (some (.int .i64 1)) none none).run Tryz.prog u = .ok (.slice ao n (cap - 1)) u) ∧ Pl w ao n (cap - 1) bs ∧
    (∀ b off, ao = some ⟨b, off, none⟩ → b = g ∧ (0 < n → off = 1)) := by
  obtain ⟨h1, h2, h3, h4⟩ := h
  have hut := Tryz.underlying152
  have ht' : Tryz.prog.underlying 152 = some (.slice (Tryz.prog.elem 152)) := by simp [Program.elem, hut]
  have he : Tryz.prog.elem 152 = 82 := by simp [Program.elem, hut]
  have hsz : ∀ u : World, (Go.sizeOf 82).run Tryz.prog u = .ok 1 u := fun u => by kernel_rfl
  have hrun : ∀ (ao : Option Addr), Go.sliced (some ⟨g, 0, none⟩) 1 (n + 1) cap 1 = .slice ao n (cap - 1) → ∀ u : World, (Instr.slice 152 (.slice (some ⟨g, 0, none⟩) (n + 1) cap) (some (.int .i64 1)) none none).run Tryz.prog u = .ok (.slice ao n (cap - 1)) u := fun ao e u => by
    rw [run_slice_l u 152 (some ⟨g, 0, none⟩) (n + 1) cap ht' .i64 1 (by omega) (by omega), he, hsz]
    simp only [Result.andThen]
    rw [← e]
    rfl
  by_cases hc : 1 < cap
  · have e := sliced_at g 0 1 (n + 1) cap hc
    rw [Nat.add_sub_cancel] at e
    refine ⟨_, hrun _ e, ⟨?_, by omega, by omega, fun hl => ?_⟩, fun b off e => ?_⟩
    · simpa using h1
    · obtain ⟨b', off', e', hlt, hcl⟩ := h4 (by omega)
      simp only [Option.some.injEq, Addr.mk.injEq] at e'
      obtain ⟨rfl, rfl, -⟩ := e'
      refine ⟨g, 0 + 1, rfl, hlt, fun i hi => ?_⟩
      obtain ⟨a, l, c, q1, q2⟩ := hcl (i + 1) (by omega)
      refine ⟨a, l, c, ?_, by simpa [List.getD] using q2⟩
      rw [show (0 : Nat) + 1 + i = 0 + (i + 1) from by omega]
      exact q1
    · simp only [Option.some.injEq, Addr.mk.injEq] at e
      omega
  · obtain rfl : cap = 1 := by omega
    obtain rfl : n = 0 := by omega
    refine ⟨_, hrun (some ⟨g, 0, none⟩) (by unfold Go.sliced; simp), ⟨by simpa using h1, Nat.le_refl _, Nat.zero_le _, fun h => absurd h (by omega)⟩, fun b off e => ?_⟩
    simp only [Option.some.injEq, Addr.mk.injEq] at e
    omega
end Go.Proofs.YthfcjfhaoabdeaaGreatDoor

/-
  The reader's read of a segment. (Printed by gen_w13b.py.)
-/
set_option linter.unusedVariables false
set_option linter.unusedSimpArgs false
namespace Go.Proofs.YthfcjfhaoabdeaaGreatDoor
open Go.RowKit

section
variable {w : World} {r : Nat} {v : Value} {R : Rdr} {A : Nat → Prop} {ao : Option Addr} {len cap : Nat} {xs : List Int}
/-- What read leaves. -/
def RdL (w w' : World) (r : Nat) (R : Rdr) (A : Nat → Prop) (xs : List Int) (n : Int) (e : Ending) : Prop :=
  ((∃ R' v', SegR xs n R (some R') ∧ e = .returned (.bool true) ∧ Rm w' r v' R' ∧ CRow w' (Land.more A w w') v' R'.cs) ∨ SegR xs n R none ∧ e = .returned (.bool false)) ∧ Fr (fun j => A j ∨ j = r) w w'
theorem below_dr (w : World) : Below w.heap.size w w.drew := ⟨rfl, rfl, rfl, Nat.le_refl _, fun _ _ => rfl⟩
theorem segR_late {R : Rdr} {n : Int} {bs : List (List Int)} {a f : Nat} (h0 : ∀ q, takA xs 0 = some q → q.1 = R.nx xs) (hg : goes xs bs 0 (R.nx xs) = some (a, f)) (hst : ∀ b, takA xs (a : Int) ≠ some (f, b)) (hl : Late xs a f) : SegR xs n R none := .inr ⟨h0, bs, a, f, hg, hst, .inl ⟨hl, rfl⟩⟩
theorem segR_some {R : Rdr} {n : Int} {bs : List (List Int)} {a f : Nat} (h0 : ∀ q, takA xs 0 = some q → q.1 = R.nx xs) (hg : goes xs bs 0 (R.nx xs) = some (a, f)) (hst : ∀ b, takA xs (a : Int) ≠ some (f, b)) (hl : ¬ Late xs a f) {x : Option Rdr} (hx : x = seg2 n bs (R.bg xs) (R.nx xs) R.cs) : SegR xs n R x := .inr ⟨h0, bs, a, f, hg, hst, .inr ⟨hl, hx⟩⟩

set_option maxRecDepth 100000 in
set_option maxHeartbeats 8000000 in
theorem rread_none (hsl : Sl w ao len cap xs) (hlen : len ≤ 262144) (hm : Rm w r v R) (hnx : R.next < 18446744073709551616) (hc : CRow w A v R.cs) (hcs : R.cs.length ≤ 100000000) (hr : ¬ A r) (hA : ∀ j, A j → j < w.heap.size) (n : Int) (hn0 : 0 ≤ n) (hn1 : n ≤ 9223372036854775807) (ht : takA xs 0 = none) :
    Calls Tryz.prog 77 #[.pointer (some ⟨r, 0, none⟩), .slice ao len cap, .int .i64 n] w fun e w' => RdL w w' r R A xs n e := by
  have HTK := hid8 (ftake_any ao len cap xs 0 w hsl (by omega))
  have H0 : Hid (∀ q, takA xs 0 = some q → q.1 = R.nx xs) := hid8 (fun q h => by rw [ht] at h; cases h)
  have N1 : Hid (R.nx xs = R.next) := hid8 (by unfold Rdr.nx; rw [ht]; split <;> rfl)
  have B1 : Hid (R.bg xs = R.begun) := hid8 (by unfold Rdr.bg; rw [ht]; simp)
  have HNX := hid8 hnx
  have HRW := hid8 hm.lt
  have HA := hid8 hA
  have HM := hid8 hm
  have HC := hid8 hc
  have HSL := hid8 hsl
  have HT := hid8 ht
  clear hsl hm hc hA ht hnx
  go_enter Tryz.func77, Tryz.ntmps77
  go_wp2_with fail
  refine HTK.out.mono ?_
  rintro e w1 ⟨hres, hb1⟩
  rcases hres with ⟨seq, body, v1, g, hk, -⟩ | ⟨-, rfl⟩
  · rw [HT.out] at hk
    cases hk
  have HZ1 : Hid (w.heap.size ≤ w1.heap.size) := hid8 hb1.size
  have HM1 := hid8 (HM.out.below hb1)
  have HC1 := hid8 (HC.out.below hb1)
  have HSL1 := hid8 (HSL.out.below hb1)
  have HF1 : Hid (Fr (fun j => A j ∨ j = r) w w1) := hid8 (Fr.below hb1)
  clear HTK hb1 HM HC HSL HT
  have hnx : R.next < 18446744073709551616 := HNX.out
  have HAL := hid8 (all_any ao len cap xs ((R.next : Nat) : Int) w1 HSL1.out (by omega) (by omega) (by omega))
  rw [Int.toNat_natCast] at HAL
  obtain ⟨t1, t2, t3⟩ := HM1.out.cells
  have hr1 := HM1.out.lt
  go_wp2_with fail
  refine HAL.out.mono ?_
  rintro e w2 ⟨⟨bs, a, f, hg, hst, hres⟩, hb2⟩
  have hz2 := hb2.size
  have HM2 := hid8 (HM1.out.below hb2)
  have HC2 := hid8 (HC1.out.below hb2)
  have HF2 := hid8 (HF1.out.trans (Fr.below hb2) (fun j e => .inl e))
  have HG := hid8 hg
  have HST := hid8 hst
  have hbl : bs.length ≤ 1000000 := by
    have h1 := goes_le HSL1.out.2.2.2.1 bs _ _ _ _ hg (Nat.zero_le _) rfl hnx
    have h2 := HSL1.out.1
    omega
  clear HAL hg hst hb2 HM1 HC1 HF1 t1 t2 t3
  rcases hres with ⟨hlate, rfl⟩ | ⟨hnl, v2, rfl, hBs⟩
  · have HL := hid8 hlate
    clear hlate
    go_wp2
    go_ret
    exact ⟨.inr ⟨segR_late H0.out (by rw [N1.out]; exact HG.out) HST.out HL.out, rfl⟩, HF2.out⟩
  · obtain ⟨ab, cb, rfl, hpl, hab, hbb⟩ := hBs.pl
    have HNL := hid8 hnl
    obtain ⟨t1, t2, t3⟩ := HM2.out.cells
    have hr2 := HM2.out.lt
    have f1 := HM2.out.free 1
    have hu1 : IntKind.u64.wrap (bs.length : Int) = (bs.length : Int) := by rw [IntKind.wrap_u64]; omega
    have hu2 : IntKind.u64.wrap ((R.next : Int) + (bs.length : Int)) = (((R.next + bs.length) % 18446744073709551616 : Nat) : Int) := by rw [IntKind.wrap_u64]; omega
    have M3 : Rm (w2.setCell ⟨r, 1, none⟩ (.int .u64 (((R.next + bs.length) % 18446744073709551616 : Nat) : Int))) r v ⟨R.begun, (R.next + bs.length) % 18446744073709551616, R.cs⟩ := (Go.Joins.block_setCell HM2.out _).trans rfl
    have F23 : Fr (fun j => j = r) w2 (w2.setCell ⟨r, 1, none⟩ (.int .u64 (((R.next + bs.length) % 18446744073709551616 : Nat) : Int))) := Fr.setCell (F := fun j => j = r) (p := ⟨r, 1, none⟩) (Fr.refl _ w2) (.inl rfl) _
    have hrw : r < w.heap.size := HRW.out
    have HM3 := hid8 M3
    have HC3 := hid8 (show CRow (w2.setCell ⟨r, 1, none⟩ (.int .u64 (((R.next + bs.length) % 18446744073709551616 : Nat) : Int))) A v R.cs from HC2.out.same (fun j hj => F23.block j (by have := HA.out j hj; have := HF2.out.size; omega) (fun e => hr (by rw [← e]; exact hj))))
    have HF3 := hid8 (HF2.out.trans F23 (fun j e => .inl (.inr e)))
    have hz3 : (w2.setCell ⟨r, 1, none⟩ (.int .u64 (((R.next + bs.length) % 18446744073709551616 : Nat) : Int))).heap.size = w2.heap.size := by simp [World.setCell]
    cases bs with
    | nil =>
      have e0 : (R.next + ([] : List (List Int)).length) % 18446744073709551616 = R.next := by simp; omega
      rw [e0] at HM3 HC3 HF3
      clear hpl hab hbb hBs hnl M3 F23
      go_wp2
      go_ret
      refine ⟨.inl ⟨⟨R.begun, R.next, R.cs⟩, v, segR_some H0.out (by rw [N1.out]; exact HG.out) HST.out HNL.out (by rw [N1.out, B1.out]; rfl), rfl, HM3.out, HC3.out.mono (fun j _ hj => .inl hj)⟩, HF3.out⟩
    | cons b bs' =>
      have hb0 := hpl.2.2.2 (by simp)
      obtain ⟨gb, ob, rfl, hgl, hcell⟩ := hb0
      obtain ⟨hgb, rfl⟩ := hab gb ob rfl
      obtain ⟨a0, l0, c0, q0, sl0⟩ := hcell 0 (by simp)
      have sl0' : Sl w2 a0 l0 c0 b := by simpa [List.getD] using sl0
      have ha0 : ∀ g o, a0 = some ⟨g, o, none⟩ → w1.heap.size ≤ g := hbb gb 0 rfl 0 (by simp) a0 l0 c0 q0
      have hz1 := HZ1.out
      obtain ⟨at', hrun, hplt, hat⟩ := Pl.tail hpl
      have hgr : gb ≠ r := by omega
      have q3 : (w2.setCell ⟨r, 1, none⟩ (.int .u64 (((R.next + (b :: bs').length) % 18446744073709551616 : Nat) : Int))).cell? ⟨gb, 0, none⟩ = some (.slice a0 l0 c0) := (F23.cell (p := ⟨gb, 0, none⟩) hgl hgr).trans q0
      have SL3 := hid8 (sl0'.fr F23 (fun _ g o e k => by have := ha0 g o e; omega))
      have hplt3 : Pl (w2.setCell ⟨r, 1, none⟩ (.int .u64 (((R.next + (b :: bs').length) % 18446744073709551616 : Nat) : Int))) at' bs'.length (cb - 1) bs' := by
        obtain ⟨p1, p2, p3, p4⟩ := hplt
        refine ⟨p1, p2, p3, fun hl => ?_⟩
        obtain ⟨b1, o1, e1, hlt1, hc1⟩ := p4 hl
        obtain ⟨rfl, ho1⟩ := hat b1 o1 e1
        have ho1 := ho1 hl
        subst ho1
        refine ⟨b1, 1, e1, by omega, fun i hi => ?_⟩
        obtain ⟨a, l, c, k1, k2⟩ := hc1 i hi
        refine ⟨a, l, c, (F23.cell (p := ⟨b1, 1 + i, none⟩) hlt1 hgr).trans k1, k2.fr F23 (fun _ g o e k => ?_)⟩
        have := hbb b1 0 rfl (i + 1) (by simp; omega) a l c (by rw [show (0 : Nat) + (i + 1) = 1 + i from by omega]; exact k1) g o e
        omega
      have hpbt : ∀ b1 off1, at' = some ⟨b1, off1, none⟩ → ¬ A b1 ∧ b1 ≠ r := fun b1 o1 e1 => by
        obtain ⟨rfl, -⟩ := hat b1 o1 e1
        exact ⟨fun k => by have := HA.out b1 k; omega, hgr⟩
      have hpbb : ∀ b1 off1, at' = some ⟨b1, off1, none⟩ → ∀ i, i < bs'.length → ∀ a l c, (w2.setCell ⟨r, 1, none⟩ (.int .u64 (((R.next + (b :: bs').length) % 18446744073709551616 : Nat) : Int))).cell? ⟨b1, off1 + i, none⟩ = some (.slice a l c) → ∀ g o, a = some ⟨g, o, none⟩ → ¬ A g ∧ g ≠ r := fun b1 o1 e1 i hi a l c k1 g o e => by
        obtain ⟨rfl, ho1⟩ := hat b1 o1 e1
        have ho1 := ho1 (by omega)
        subst ho1
        have k2 := (F23.cell (p := ⟨b1, 1 + i, none⟩) hgl hgr).symm.trans k1
        have := hbb b1 0 rfl (i + 1) (by simp; omega) a l c (by rw [show (0 : Nat) + (i + 1) = 1 + i from by omega]; exact k2) g o e
        exact ⟨fun k => by have := HA.out g k; omega, by omega⟩
      have HPT := hid8 hplt3
      have HPB1 := hid8 hpbt
      have HPB2 := hid8 hpbb
      have HRUN := hid8 hrun
      have hA3 : Hid (∀ j, A j → j < (w2.setCell ⟨r, 1, none⟩ (.int .u64 (((R.next + (b :: bs').length) % 18446744073709551616 : Nat) : Int))).heap.size) := hid8 (fun j hj => by have := HA.out j hj; have := HF2.out.size; omega)
      have hbl2 : bs'.length ≤ 1000000 := by simp only [List.length_cons] at hbl; omega
      have hl1 : ((bs'.length : Int) + 1 == 0) = false := by simp; omega
      have hl2 : ¬ (bs'.length : Int) + 1 = 0 := by omega
      have HSG : Hid (∀ x, x = seg2 n (b :: bs') R.begun R.next R.cs → SegR xs n R x) := hid8 (fun x hx => segR_some H0.out (by rw [N1.out]; exact HG.out) HST.out HNL.out (by rw [N1.out, B1.out]; exact hx))
      clear hpl hab hbb hBs hnl M3 F23 hcell sl0 sl0' hplt3 hpbt hpbb hplt hrun HG HST HNL H0 N1 B1 HM2 HC2 HF2 t1 t3 hat q0
      have hM : ((R.next + (b :: bs').length) % 18446744073709551616 : Nat) = (R.next + (bs'.length + 1)) % 18446744073709551616 := by simp
      have hu1a : IntKind.u64.wrap ((bs'.length : Int) + 1) = (bs'.length : Int) + 1 := by rw [IntKind.wrap_u64]; omega
      have hu2a : IntKind.u64.wrap ((R.next : Int) + ((bs'.length : Int) + 1)) = (((R.next + (b :: bs').length) % 18446744073709551616 : Nat) : Int) := by rw [hM, IntKind.wrap_u64]; omega
      generalize hMM : (R.next + (b :: bs').length) % 18446744073709551616 = M at *
      have HMM := hid8 hMM
      clear hM hMM hu1 hu2
      go_wp2
      generalize hW3 : w2.setCell ⟨r, 1, none⟩ (.int .u64 (M : Int)) = w3 at *
      have bd := below_dr w3
      have hz34 : w3.heap.size ≤ w3.drew.heap.size := Nat.le_refl _
      by_cases hbf : b = fstB n
      · have HBF := hid8 hbf
        have hdec : decide (b = fstB n) = true := by simpa using hbf
        clear hbf
        refine wp_region_noPanic ?_
        refine wp_region_held_drew (S := (fun u : World => u.cell? ⟨gb, 0, none⟩ = some (.slice a0 l0 c0))) (by kernel_rfl) (q3) (fun hHeld => ?_)
        refine wpAnyH_take (i := 0) (oi := { dst := some 70, op := _, type := _, pos := _, after := _, guard := _ }) (v := ?_) rfl (by kernel_rfl) (by kernel_rfl) (by kernel_rfl) (fun _ _ _ h => h) (Or.inl ⟨by rfl, ?_⟩) (by assumption) ?_
        rotate_left 1
        · intro u hSw; obtain s1 := hSw; go_simp; try with_reducible rfl
        try simp only [Act.put, List.setIfInBounds_toArray, List.set_cons_zero, List.set_cons_succ]
        refine wpAnyH_take (i := 1) (oi := { dst := some 71, op := _, type := _, pos := _, after := _, guard := _ }) (v := ?_) rfl (by kernel_rfl) (by kernel_rfl) (by kernel_rfl) (fun _ _ _ h => h) (Or.inl ⟨by rfl, ?_⟩) (by assumption) ?_
        rotate_left 1
        · intro u hSw; obtain s1 := hSw; go_simp; try with_reducible rfl
        try simp only [Act.put, List.setIfInBounds_toArray, List.set_cons_zero, List.set_cons_succ]
        refine wpAnyH_take (i := 2) (oi := { dst := some 72, op := _, type := _, pos := _, after := _, guard := _ }) (v := ?_) rfl (by kernel_rfl) (by kernel_rfl) (by kernel_rfl) (fun _ _ _ h => h) (Or.inl ⟨by rfl, ?_⟩) (by assumption) ?_
        rotate_left 1
        · intro u hSw; obtain s1 := hSw; go_simp; try with_reducible rfl
        try simp only [Act.put, List.setIfInBounds_toArray, List.set_cons_zero, List.set_cons_succ]
        refine wpAnyH_take (i := 3) (oi := { dst := some 73, op := _, type := _, pos := _, after := _, guard := _ }) (v := ?_) rfl (by kernel_rfl) (by kernel_rfl) (by kernel_rfl) (fun _ _ _ h => h) (Or.inl ⟨by rfl, ?_⟩) (by assumption) ?_
        rotate_left 1
        · intro u hSw; obtain s1 := hSw; go_simp; try with_reducible rfl
        try simp only [Act.put, List.setIfInBounds_toArray, List.set_cons_zero, List.set_cons_succ]
        refine wpAnyH_ready (rs := [4]) (by kernel_rfl) (by simp) ?_
        refine AllReadyH.cons (o := { dst := some 74, op := _, type := _, pos := _, after := _, guard := _ }) rfl (fun K hK => ?_) AllReadyH.nil
        go_simp
        refine (firstBody_any n hn0 hn1 w3.drew).mono ?_
        rintro e w4 ⟨v4, rfl, ho4, hb4⟩
        obtain ⟨a4, c4, rfl, sl4, lo4⟩ := ho4.sl (fstB_byt n hn0)
        have hz4 : w3.heap.size ≤ w4.heap.size := hb4.size
        have HB4 := hid8 (bd.trans (hb4.mono hz34))
        have HS4 := hid8 sl4
        generalize (fstB n).length = n4 at HS4 ⊢
        clear hb4 ho4 sl4 lo4
        go_wp2_with fail
        refine hK.out _ _ ((HB4.out.cell (p := ⟨gb, 0, none⟩) (by show gb < w3.heap.size; omega)).trans q3) (fun hHeld => ?_)
        clear hK K
        try simp only [Act.put, List.setIfInBounds_toArray, List.set_cons_zero, List.set_cons_succ]
        refine wpAnyH_ready (rs := [5]) (by kernel_rfl) (by simp) ?_
        refine AllReadyH.cons (o := { dst := some 75, op := _, type := _, pos := _, after := _, guard := _ }) rfl (fun K hK => ?_) AllReadyH.nil
        go_simp
        refine (bEqual_any (SL3.out.below HB4.out) HS4.out).mono ?_
        rintro e w5 ⟨rfl, rfl⟩
        rw [hdec]
        go_wp2_with fail
        refine hK.out _ _ ((HB4.out.cell (p := ⟨gb, 0, none⟩) (by show gb < w3.heap.size; omega)).trans q3) (fun hHeld => ?_)
        clear hK K
        try simp only [Act.put, List.setIfInBounds_toArray, List.set_cons_zero, List.set_cons_succ]
        refine wpAnyH_take (i := 6) (oi := { dst := some 76, op := _, type := _, pos := _, after := _, guard := _ }) (v := ?_) rfl (by kernel_rfl) (by kernel_rfl) (by kernel_rfl) (fun _ _ _ h => h) (Or.inl ⟨by rfl, ?_⟩) (by assumption) ?_
        rotate_left 1
        · intro u hSw; obtain s1 := hSw; go_simp; try with_reducible rfl
        try simp only [Act.put, List.setIfInBounds_toArray, List.set_cons_zero, List.set_cons_succ]
        have hrun := HRUN.out
        refine wpAnyH_take (i := 7) (oi := { dst := some 77, op := _, type := _, pos := _, after := _, guard := _ }) (v := ?_) rfl (by kernel_rfl) (by kernel_rfl) (by kernel_rfl) (fun _ _ _ h => h) (Or.inl ⟨by rfl, ?_⟩) (by assumption) ?_
        rotate_left 1
        · intro u hSw; obtain s1 := hSw; go_simp; try with_reducible rfl
        try simp only [Act.put, List.setIfInBounds_toArray, List.set_cons_zero, List.set_cons_succ]
        refine wpAnyH_take (i := 8) (oi := { dst := some 78, op := _, type := _, pos := _, after := _, guard := _ }) (v := ?_) rfl (by kernel_rfl) (by kernel_rfl) (by kernel_rfl) (fun _ _ _ h => h) (Or.inl ⟨by rfl, ?_⟩) (by assumption) ?_
        rotate_left 1
        · intro u hSw; obtain s1 := hSw; go_simp; try with_reducible rfl
        try simp only [Act.put, List.setIfInBounds_toArray, List.set_cons_zero, List.set_cons_succ]
        refine wpAnyH_take (i := 9) (oi := { dst := some 79, op := _, type := _, pos := _, after := _, guard := _ }) (v := ?_) rfl (by kernel_rfl) (by kernel_rfl) (by kernel_rfl) (fun _ _ _ h => h) (Or.inl ⟨by rfl, ?_⟩) (by assumption) ?_
        rotate_left 1
        · intro u hSw; obtain s1 := hSw; go_simp; try with_reducible rfl
        try simp only [Act.put, List.setIfInBounds_toArray, List.set_cons_zero, List.set_cons_succ]
        clear hrun
        have HTA := hid8 (rtake_any (R := ⟨R.begun, M, R.cs⟩) (HPT.out.below HB4.out) (by show R.cs.length + bs'.length ≤ 1000000000; omega) (HM3.out.below HB4.out) (HC3.out.below HB4.out) hr (fun j hj => Nat.lt_of_lt_of_le (hA3.out j hj) hz4) HPB1.out (fun b1 o1 e1 i hi a l c k1 g o e => HPB2.out b1 o1 e1 i hi a l c ((HB4.out.cell (p := ⟨b1, o1 + i, none⟩) (by
          obtain ⟨p1, p2, p3, p4⟩ := HPT.out
          obtain ⟨b2, o2, e2, hlt2, -⟩ := p4 (by omega)
          rw [e1] at e2
          simp only [Option.some.injEq, Addr.mk.injEq] at e2
          show b1 < w3.heap.size
          omega)).symm.trans k1) g o e))
        refine wpAnyH_ready (rs := [10]) (by kernel_rfl) (by simp) ?_
        refine AllReadyH.cons (o := { dst := some 80, op := _, type := _, pos := _, after := _, guard := _ }) rfl (fun K hK => ?_) AllReadyH.nil
        go_simp
        refine HTA.out.mono ?_
        rintro e w6 ⟨hres, hf6⟩
        have HF6 := hid8 hf6
        have q6 : w6.cell? ⟨gb, 0, none⟩ = some (.slice a0 l0 c0) := (hf6.cell (p := ⟨gb, 0, none⟩) (by show gb < _; omega) (fun k => by
          rcases k with k | k
          · have := HA.out gb k; omega
          · exact hgr k)).trans ((HB4.out.cell (p := ⟨gb, 0, none⟩) (by show gb < w3.heap.size; omega)).trans q3)
        clear HTA hf6
        obtain ⟨bv, hres⟩ : ∃ bv, Hid (e = .returned (.bool bv) ∧ ((bv = true ∧ ∃ k v', coms bs' = some k ∧ Rm w6 r v' ⟨R.begun, M, R.cs ++ k⟩ ∧ CRow w6 (Land.more A _ w6) v' (R.cs ++ k)) ∨ bv = false ∧ coms bs' = none)) := by
          rcases hres with ⟨k, v', h1, h2, h3, h4⟩ | ⟨h1, h2⟩
          · exact ⟨true, h2, .inl ⟨rfl, k, v', h1, h3, h4⟩⟩
          · exact ⟨false, h2, .inr ⟨rfl, h1⟩⟩
        obtain rfl := hres.out.1
        have HRS := hid8 hres.out.2
        clear hres
        go_wp2_with fail
        refine hK.out _ _ (q6) (fun hHeld => ?_)
        clear hK K
        try simp only [Act.put, List.setIfInBounds_toArray, List.set_cons_zero, List.set_cons_succ]
        refine wpAnyH_take (i := 11) (oi := { dst := some 81, op := _, type := _, pos := _, after := _, guard := _ }) (v := ?_) rfl (by kernel_rfl) (by kernel_rfl) (by kernel_rfl) (fun _ _ _ h => h) (Or.inl ⟨by rfl, ?_⟩) (by assumption) ?_
        rotate_left 1
        · intro u hSw; obtain s1 := hSw; go_simp; try with_reducible rfl
        try simp only [Act.put, List.setIfInBounds_toArray, List.set_cons_zero, List.set_cons_succ]
        refine wpAnyH_take (i := 12) (oi := { dst := some 6, op := _, type := _, pos := _, after := _, guard := _ }) (v := ?_) rfl (by kernel_rfl) (by kernel_rfl) (by kernel_rfl) (fun _ _ _ h => h) (Or.inl ⟨by rfl, ?_⟩) (by assumption) ?_
        rotate_left 1
        · intro u hSw; obtain s1 := hSw; go_simp; try with_reducible rfl
        try simp only [Act.put, List.setIfInBounds_toArray, List.set_cons_zero, List.set_cons_succ]
        refine wpAnyH_done (by kernel_rfl) ?_ _
        refine NoPanic.normal ?_
        go_wp2
        go_ret
        have FW : Fr (fun j => A j ∨ j = r) w w6 := (HF3.out.trans (Fr.below HB4.out) (fun j e => .inl e)).trans HF6.out (fun j e => .inl e)
        rcases HRS.out with ⟨rfl, k, v', h1, h3, h4⟩ | ⟨rfl, h1⟩
        · refine ⟨.inl ⟨⟨R.begun, M, R.cs ++ k⟩, v', HSG.out _ ?_, rfl, h3, h4.mono (fun j _ hj => ?_)⟩, FW⟩
          · unfold seg2
            simp only []
            rw [if_pos HBF.out, h1, ← HMM.out]
            rfl
          · rcases hj with q | q
            · exact .inl q
            · exact .inr ⟨by have := q.1; omega, q.2⟩
        · refine ⟨.inr ⟨HSG.out _ ?_, rfl⟩, FW⟩
          unfold seg2
          simp only []
          rw [if_pos HBF.out, h1]
          rfl
      · have HBF := hid8 hbf
        have hdec : decide (b = fstB n) = false := by simpa using hbf
        clear hbf
        refine wp_region_noPanic ?_
        refine wp_region_held_drew (S := (fun u : World => u.cell? ⟨gb, 0, none⟩ = some (.slice a0 l0 c0))) (by kernel_rfl) (q3) (fun hHeld => ?_)
        refine wpAnyH_take (i := 0) (oi := { dst := some 70, op := _, type := _, pos := _, after := _, guard := _ }) (v := ?_) rfl (by kernel_rfl) (by kernel_rfl) (by kernel_rfl) (fun _ _ _ h => h) (Or.inl ⟨by rfl, ?_⟩) (by assumption) ?_
        rotate_left 1
        · intro u hSw; obtain s1 := hSw; go_simp; try with_reducible rfl
        try simp only [Act.put, List.setIfInBounds_toArray, List.set_cons_zero, List.set_cons_succ]
        refine wpAnyH_take (i := 1) (oi := { dst := some 71, op := _, type := _, pos := _, after := _, guard := _ }) (v := ?_) rfl (by kernel_rfl) (by kernel_rfl) (by kernel_rfl) (fun _ _ _ h => h) (Or.inl ⟨by rfl, ?_⟩) (by assumption) ?_
        rotate_left 1
        · intro u hSw; obtain s1 := hSw; go_simp; try with_reducible rfl
        try simp only [Act.put, List.setIfInBounds_toArray, List.set_cons_zero, List.set_cons_succ]
        refine wpAnyH_take (i := 2) (oi := { dst := some 72, op := _, type := _, pos := _, after := _, guard := _ }) (v := ?_) rfl (by kernel_rfl) (by kernel_rfl) (by kernel_rfl) (fun _ _ _ h => h) (Or.inl ⟨by rfl, ?_⟩) (by assumption) ?_
        rotate_left 1
        · intro u hSw; obtain s1 := hSw; go_simp; try with_reducible rfl
        try simp only [Act.put, List.setIfInBounds_toArray, List.set_cons_zero, List.set_cons_succ]
        refine wpAnyH_take (i := 3) (oi := { dst := some 73, op := _, type := _, pos := _, after := _, guard := _ }) (v := ?_) rfl (by kernel_rfl) (by kernel_rfl) (by kernel_rfl) (fun _ _ _ h => h) (Or.inl ⟨by rfl, ?_⟩) (by assumption) ?_
        rotate_left 1
        · intro u hSw; obtain s1 := hSw; go_simp; try with_reducible rfl
        try simp only [Act.put, List.setIfInBounds_toArray, List.set_cons_zero, List.set_cons_succ]
        refine wpAnyH_ready (rs := [4]) (by kernel_rfl) (by simp) ?_
        refine AllReadyH.cons (o := { dst := some 74, op := _, type := _, pos := _, after := _, guard := _ }) rfl (fun K hK => ?_) AllReadyH.nil
        go_simp
        refine (firstBody_any n hn0 hn1 w3.drew).mono ?_
        rintro e w4 ⟨v4, rfl, ho4, hb4⟩
        obtain ⟨a4, c4, rfl, sl4, lo4⟩ := ho4.sl (fstB_byt n hn0)
        have hz4 : w3.heap.size ≤ w4.heap.size := hb4.size
        have HB4 := hid8 (bd.trans (hb4.mono hz34))
        have HS4 := hid8 sl4
        generalize (fstB n).length = n4 at HS4 ⊢
        clear hb4 ho4 sl4 lo4
        go_wp2_with fail
        refine hK.out _ _ ((HB4.out.cell (p := ⟨gb, 0, none⟩) (by show gb < w3.heap.size; omega)).trans q3) (fun hHeld => ?_)
        clear hK K
        try simp only [Act.put, List.setIfInBounds_toArray, List.set_cons_zero, List.set_cons_succ]
        refine wpAnyH_ready (rs := [5]) (by kernel_rfl) (by simp) ?_
        refine AllReadyH.cons (o := { dst := some 75, op := _, type := _, pos := _, after := _, guard := _ }) rfl (fun K hK => ?_) AllReadyH.nil
        go_simp
        refine (bEqual_any (SL3.out.below HB4.out) HS4.out).mono ?_
        rintro e w5 ⟨rfl, rfl⟩
        rw [hdec]
        go_wp2_with fail
        refine hK.out _ _ ((HB4.out.cell (p := ⟨gb, 0, none⟩) (by show gb < w3.heap.size; omega)).trans q3) (fun hHeld => ?_)
        clear hK K
        try simp only [Act.put, List.setIfInBounds_toArray, List.set_cons_zero, List.set_cons_succ]
        refine wpAnyH_take (i := 6) (oi := { dst := some 76, op := _, type := _, pos := _, after := _, guard := _ }) (v := ?_) rfl (by kernel_rfl) (by kernel_rfl) (by kernel_rfl) (fun _ _ _ h => h) (Or.inl ⟨by rfl, ?_⟩) (by assumption) ?_
        rotate_left 1
        · intro u hSw; obtain s1 := hSw; go_simp; try with_reducible rfl
        try simp only [Act.put, List.setIfInBounds_toArray, List.set_cons_zero, List.set_cons_succ]
        refine wpAnyH_take (i := 7) (oi := { dst := some 77, op := _, type := _, pos := _, after := _, guard := _ }) (v := undef) rfl (by kernel_rfl) (by kernel_rfl) (by kernel_rfl) (fun _ _ _ h => h) (Or.inr ⟨by rfl, by rfl⟩) (by assumption) ?_
        try simp only [Act.put, List.setIfInBounds_toArray, List.set_cons_zero, List.set_cons_succ]
        refine wpAnyH_take (i := 8) (oi := { dst := some 78, op := _, type := _, pos := _, after := _, guard := _ }) (v := undef) rfl (by kernel_rfl) (by kernel_rfl) (by kernel_rfl) (fun _ _ _ h => h) (Or.inr ⟨by rfl, by rfl⟩) (by assumption) ?_
        try simp only [Act.put, List.setIfInBounds_toArray, List.set_cons_zero, List.set_cons_succ]
        refine wpAnyH_take (i := 9) (oi := { dst := some 79, op := _, type := _, pos := _, after := _, guard := _ }) (v := undef) rfl (by kernel_rfl) (by kernel_rfl) (by kernel_rfl) (fun _ _ _ h => h) (Or.inr ⟨by rfl, by rfl⟩) (by assumption) ?_
        try simp only [Act.put, List.setIfInBounds_toArray, List.set_cons_zero, List.set_cons_succ]
        refine wpAnyH_take (i := 10) (oi := { dst := some 80, op := _, type := _, pos := _, after := _, guard := _ }) (v := undef) rfl (by kernel_rfl) (by kernel_rfl) (by kernel_rfl) (fun _ _ _ h => h) (Or.inr ⟨by rfl, by rfl⟩) (by assumption) ?_
        try simp only [Act.put, List.setIfInBounds_toArray, List.set_cons_zero, List.set_cons_succ]
        refine wpAnyH_take (i := 11) (oi := { dst := some 81, op := _, type := _, pos := _, after := _, guard := _ }) (v := ?_) rfl (by kernel_rfl) (by kernel_rfl) (by kernel_rfl) (fun _ _ _ h => h) (Or.inl ⟨by rfl, ?_⟩) (by assumption) ?_
        rotate_left 1
        · intro u hSw; obtain s1 := hSw; go_simp; try with_reducible rfl
        try simp only [Act.put, List.setIfInBounds_toArray, List.set_cons_zero, List.set_cons_succ]
        refine wpAnyH_take (i := 12) (oi := { dst := some 6, op := _, type := _, pos := _, after := _, guard := _ }) (v := ?_) rfl (by kernel_rfl) (by kernel_rfl) (by kernel_rfl) (fun _ _ _ h => h) (Or.inl ⟨by rfl, ?_⟩) (by assumption) ?_
        rotate_left 1
        · intro u hSw; obtain s1 := hSw; go_simp; try with_reducible rfl
        try simp only [Act.put, List.setIfInBounds_toArray, List.set_cons_zero, List.set_cons_succ]
        refine wpAnyH_done (by kernel_rfl) ?_ _
        refine NoPanic.normal ?_
        go_wp2
        go_ret
        refine ⟨.inr ⟨HSG.out _ ?_, rfl⟩, HF3.out.trans (Fr.below HB4.out) (fun j e => .inl e)⟩
        unfold seg2
        simp only []
        rw [if_neg HBF.out]

set_option maxRecDepth 100000 in
set_option maxHeartbeats 8000000 in
theorem rread_same (hsl : Sl w ao len cap xs) (hlen : len ≤ 262144) (hm : Rm w r v R) (hnx : R.next < 18446744073709551616) (hc : CRow w A v R.cs) (hcs : R.cs.length ≤ 100000000) (hr : ¬ A r) (hA : ∀ j, A j → j < w.heap.size) (n : Int) (hn0 : 0 ≤ n) (hn1 : n ≤ 9223372036854775807) {seq : Nat} {body : List Int} (ht : takA xs 0 = some (seq, body)) (hs2 : seq < 18446744073709551616) (hbg : R.begun = true) (hsq : seq = R.next) :
    Calls Tryz.prog 77 #[.pointer (some ⟨r, 0, none⟩), .slice ao len cap, .int .i64 n] w fun e w' => RdL w w' r R A xs n e := by
  have HTK := hid8 (ftake_any ao len cap xs 0 w hsl (by omega))
  have N1 : Hid (R.nx xs = R.next) := hid8 (by unfold Rdr.nx; rw [if_pos hbg])
  have B1 : Hid (R.bg xs = R.begun) := hid8 (by unfold Rdr.bg; rw [ht, hbg]; rfl)
  have HNX := hid8 hnx
  have H0 : Hid (∀ q, takA xs 0 = some q → q.1 = R.nx xs) := hid8 (fun q h => by rw [ht] at h; simp only [Option.some.injEq] at h; rw [N1.out, ← h]; exact hsq)
  have HRW := hid8 hm.lt
  have HA := hid8 hA
  have HM := hid8 hm
  have HC := hid8 hc
  have HSL := hid8 hsl
  have HT := hid8 ht
  clear hsl hm hc hA ht hnx
  go_enter Tryz.func77, Tryz.ntmps77
  go_wp2_with fail
  refine HTK.out.mono ?_
  rintro e w1 ⟨hres, hb1⟩
  rcases hres with ⟨seq', body', v1, g, hk, rfl, hbd⟩ | ⟨hk, -⟩
  rotate_left
  · rw [HT.out] at hk
    cases hk
  rw [HT.out] at hk
  simp only [Option.some.injEq, Prod.mk.injEq] at hk
  obtain ⟨rfl, rfl⟩ := hk
  obtain ⟨-, -, a1, c1, rfl, -, -⟩ := hbd
  have M1 := HM.out.below hb1
  obtain ⟨y1, y2, y3⟩ := M1.cells
  have g0 := M1.free 0
  have g1 := M1.free 1
  have hr0 := M1.lt
  rw [hbg] at y1
  have y2' : w1.cell? ⟨r, 1, none⟩ = some (.int .u64 (seq : Int)) := by rw [y2, hsq]
  have HZ1 : Hid (w.heap.size ≤ w1.heap.size) := hid8 hb1.size
  have HM1 := hid8 M1
  have HC1 := hid8 (HC.out.below hb1)
  have HSL1 := hid8 (HSL.out.below hb1)
  have HF1 : Hid (Fr (fun j => A j ∨ j = r) w w1) := hid8 (Fr.below hb1)
  clear M1 HTK hb1 HM HC HSL HT
  have hnx : R.next < 18446744073709551616 := HNX.out
  have HAL := hid8 (all_any ao len cap xs ((R.next : Nat) : Int) w1 HSL1.out (by omega) (by omega) (by omega))
  rw [Int.toNat_natCast] at HAL
  obtain ⟨t1, t2, t3⟩ := HM1.out.cells
  have hr1 := HM1.out.lt
  go_wp2_with fail
  refine HAL.out.mono ?_
  rintro e w2 ⟨⟨bs, a, f, hg, hst, hres⟩, hb2⟩
  have hz2 := hb2.size
  have HM2 := hid8 (HM1.out.below hb2)
  have HC2 := hid8 (HC1.out.below hb2)
  have HF2 := hid8 (HF1.out.trans (Fr.below hb2) (fun j e => .inl e))
  have HG := hid8 hg
  have HST := hid8 hst
  have hbl : bs.length ≤ 1000000 := by
    have h1 := goes_le HSL1.out.2.2.2.1 bs _ _ _ _ hg (Nat.zero_le _) rfl hnx
    have h2 := HSL1.out.1
    omega
  clear HAL hg hst hb2 HM1 HC1 HF1 t1 t2 t3
  rcases hres with ⟨hlate, rfl⟩ | ⟨hnl, v2, rfl, hBs⟩
  · have HL := hid8 hlate
    clear hlate
    go_wp2
    go_ret
    exact ⟨.inr ⟨segR_late H0.out (by rw [N1.out]; exact HG.out) HST.out HL.out, rfl⟩, HF2.out⟩
  · obtain ⟨ab, cb, rfl, hpl, hab, hbb⟩ := hBs.pl
    have HNL := hid8 hnl
    obtain ⟨t1, t2, t3⟩ := HM2.out.cells
    have hr2 := HM2.out.lt
    have f1 := HM2.out.free 1
    have hu1 : IntKind.u64.wrap (bs.length : Int) = (bs.length : Int) := by rw [IntKind.wrap_u64]; omega
    have hu2 : IntKind.u64.wrap ((R.next : Int) + (bs.length : Int)) = (((R.next + bs.length) % 18446744073709551616 : Nat) : Int) := by rw [IntKind.wrap_u64]; omega
    have M3 : Rm (w2.setCell ⟨r, 1, none⟩ (.int .u64 (((R.next + bs.length) % 18446744073709551616 : Nat) : Int))) r v ⟨R.begun, (R.next + bs.length) % 18446744073709551616, R.cs⟩ := (Go.Joins.block_setCell HM2.out _).trans rfl
    have F23 : Fr (fun j => j = r) w2 (w2.setCell ⟨r, 1, none⟩ (.int .u64 (((R.next + bs.length) % 18446744073709551616 : Nat) : Int))) := Fr.setCell (F := fun j => j = r) (p := ⟨r, 1, none⟩) (Fr.refl _ w2) (.inl rfl) _
    have hrw : r < w.heap.size := HRW.out
    have HM3 := hid8 M3
    have HC3 := hid8 (show CRow (w2.setCell ⟨r, 1, none⟩ (.int .u64 (((R.next + bs.length) % 18446744073709551616 : Nat) : Int))) A v R.cs from HC2.out.same (fun j hj => F23.block j (by have := HA.out j hj; have := HF2.out.size; omega) (fun e => hr (by rw [← e]; exact hj))))
    have HF3 := hid8 (HF2.out.trans F23 (fun j e => .inl (.inr e)))
    have hz3 : (w2.setCell ⟨r, 1, none⟩ (.int .u64 (((R.next + bs.length) % 18446744073709551616 : Nat) : Int))).heap.size = w2.heap.size := by simp [World.setCell]
    cases bs with
    | nil =>
      have e0 : (R.next + ([] : List (List Int)).length) % 18446744073709551616 = R.next := by simp; omega
      rw [e0] at HM3 HC3 HF3
      clear hpl hab hbb hBs hnl M3 F23
      go_wp2
      go_ret
      refine ⟨.inl ⟨⟨R.begun, R.next, R.cs⟩, v, segR_some H0.out (by rw [N1.out]; exact HG.out) HST.out HNL.out (by rw [N1.out, B1.out]; rfl), rfl, HM3.out, HC3.out.mono (fun j _ hj => .inl hj)⟩, HF3.out⟩
    | cons b bs' =>
      have hb0 := hpl.2.2.2 (by simp)
      obtain ⟨gb, ob, rfl, hgl, hcell⟩ := hb0
      obtain ⟨hgb, rfl⟩ := hab gb ob rfl
      obtain ⟨a0, l0, c0, q0, sl0⟩ := hcell 0 (by simp)
      have sl0' : Sl w2 a0 l0 c0 b := by simpa [List.getD] using sl0
      have ha0 : ∀ g o, a0 = some ⟨g, o, none⟩ → w1.heap.size ≤ g := hbb gb 0 rfl 0 (by simp) a0 l0 c0 q0
      have hz1 := HZ1.out
      obtain ⟨at', hrun, hplt, hat⟩ := Pl.tail hpl
      have hgr : gb ≠ r := by omega
      have q3 : (w2.setCell ⟨r, 1, none⟩ (.int .u64 (((R.next + (b :: bs').length) % 18446744073709551616 : Nat) : Int))).cell? ⟨gb, 0, none⟩ = some (.slice a0 l0 c0) := (F23.cell (p := ⟨gb, 0, none⟩) hgl hgr).trans q0
      have SL3 := hid8 (sl0'.fr F23 (fun _ g o e k => by have := ha0 g o e; omega))
      have hplt3 : Pl (w2.setCell ⟨r, 1, none⟩ (.int .u64 (((R.next + (b :: bs').length) % 18446744073709551616 : Nat) : Int))) at' bs'.length (cb - 1) bs' := by
        obtain ⟨p1, p2, p3, p4⟩ := hplt
        refine ⟨p1, p2, p3, fun hl => ?_⟩
        obtain ⟨b1, o1, e1, hlt1, hc1⟩ := p4 hl
        obtain ⟨rfl, ho1⟩ := hat b1 o1 e1
        have ho1 := ho1 hl
        subst ho1
        refine ⟨b1, 1, e1, by omega, fun i hi => ?_⟩
        obtain ⟨a, l, c, k1, k2⟩ := hc1 i hi
        refine ⟨a, l, c, (F23.cell (p := ⟨b1, 1 + i, none⟩) hlt1 hgr).trans k1, k2.fr F23 (fun _ g o e k => ?_)⟩
        have := hbb b1 0 rfl (i + 1) (by simp; omega) a l c (by rw [show (0 : Nat) + (i + 1) = 1 + i from by omega]; exact k1) g o e
        omega
      have hpbt : ∀ b1 off1, at' = some ⟨b1, off1, none⟩ → ¬ A b1 ∧ b1 ≠ r := fun b1 o1 e1 => by
        obtain ⟨rfl, -⟩ := hat b1 o1 e1
        exact ⟨fun k => by have := HA.out b1 k; omega, hgr⟩
      have hpbb : ∀ b1 off1, at' = some ⟨b1, off1, none⟩ → ∀ i, i < bs'.length → ∀ a l c, (w2.setCell ⟨r, 1, none⟩ (.int .u64 (((R.next + (b :: bs').length) % 18446744073709551616 : Nat) : Int))).cell? ⟨b1, off1 + i, none⟩ = some (.slice a l c) → ∀ g o, a = some ⟨g, o, none⟩ → ¬ A g ∧ g ≠ r := fun b1 o1 e1 i hi a l c k1 g o e => by
        obtain ⟨rfl, ho1⟩ := hat b1 o1 e1
        have ho1 := ho1 (by omega)
        subst ho1
        have k2 := (F23.cell (p := ⟨b1, 1 + i, none⟩) hgl hgr).symm.trans k1
        have := hbb b1 0 rfl (i + 1) (by simp; omega) a l c (by rw [show (0 : Nat) + (i + 1) = 1 + i from by omega]; exact k2) g o e
        exact ⟨fun k => by have := HA.out g k; omega, by omega⟩
      have HPT := hid8 hplt3
      have HPB1 := hid8 hpbt
      have HPB2 := hid8 hpbb
      have HRUN := hid8 hrun
      have hA3 : Hid (∀ j, A j → j < (w2.setCell ⟨r, 1, none⟩ (.int .u64 (((R.next + (b :: bs').length) % 18446744073709551616 : Nat) : Int))).heap.size) := hid8 (fun j hj => by have := HA.out j hj; have := HF2.out.size; omega)
      have hbl2 : bs'.length ≤ 1000000 := by simp only [List.length_cons] at hbl; omega
      have hl1 : ((bs'.length : Int) + 1 == 0) = false := by simp; omega
      have hl2 : ¬ (bs'.length : Int) + 1 = 0 := by omega
      have HSG : Hid (∀ x, x = seg2 n (b :: bs') R.begun R.next R.cs → SegR xs n R x) := hid8 (fun x hx => segR_some H0.out (by rw [N1.out]; exact HG.out) HST.out HNL.out (by rw [N1.out, B1.out]; exact hx))
      clear hpl hab hbb hBs hnl M3 F23 hcell sl0 sl0' hplt3 hpbt hpbb hplt hrun HG HST HNL H0 N1 B1 HM2 HC2 HF2 t1 t3 hat q0
      have hM : ((R.next + (b :: bs').length) % 18446744073709551616 : Nat) = (R.next + (bs'.length + 1)) % 18446744073709551616 := by simp
      have hu1a : IntKind.u64.wrap ((bs'.length : Int) + 1) = (bs'.length : Int) + 1 := by rw [IntKind.wrap_u64]; omega
      have hu2a : IntKind.u64.wrap ((R.next : Int) + ((bs'.length : Int) + 1)) = (((R.next + (b :: bs').length) % 18446744073709551616 : Nat) : Int) := by rw [hM, IntKind.wrap_u64]; omega
      generalize hMM : (R.next + (b :: bs').length) % 18446744073709551616 = M at *
      have HMM := hid8 hMM
      clear hM hMM hu1 hu2
      go_wp2
      generalize hW3 : w2.setCell ⟨r, 1, none⟩ (.int .u64 (M : Int)) = w3 at *
      have bd := below_dr w3
      have hz34 : w3.heap.size ≤ w3.drew.heap.size := Nat.le_refl _
      by_cases hbf : b = fstB n
      · have HBF := hid8 hbf
        have hdec : decide (b = fstB n) = true := by simpa using hbf
        clear hbf
        refine wp_region_noPanic ?_
        refine wp_region_held_drew (S := (fun u : World => u.cell? ⟨gb, 0, none⟩ = some (.slice a0 l0 c0))) (by kernel_rfl) (q3) (fun hHeld => ?_)
        refine wpAnyH_take (i := 0) (oi := { dst := some 70, op := _, type := _, pos := _, after := _, guard := _ }) (v := ?_) rfl (by kernel_rfl) (by kernel_rfl) (by kernel_rfl) (fun _ _ _ h => h) (Or.inl ⟨by rfl, ?_⟩) (by assumption) ?_
        rotate_left 1
        · intro u hSw; obtain s1 := hSw; go_simp; try with_reducible rfl
        try simp only [Act.put, List.setIfInBounds_toArray, List.set_cons_zero, List.set_cons_succ]
        refine wpAnyH_take (i := 1) (oi := { dst := some 71, op := _, type := _, pos := _, after := _, guard := _ }) (v := ?_) rfl (by kernel_rfl) (by kernel_rfl) (by kernel_rfl) (fun _ _ _ h => h) (Or.inl ⟨by rfl, ?_⟩) (by assumption) ?_
        rotate_left 1
        · intro u hSw; obtain s1 := hSw; go_simp; try with_reducible rfl
        try simp only [Act.put, List.setIfInBounds_toArray, List.set_cons_zero, List.set_cons_succ]
        refine wpAnyH_take (i := 2) (oi := { dst := some 72, op := _, type := _, pos := _, after := _, guard := _ }) (v := ?_) rfl (by kernel_rfl) (by kernel_rfl) (by kernel_rfl) (fun _ _ _ h => h) (Or.inl ⟨by rfl, ?_⟩) (by assumption) ?_
        rotate_left 1
        · intro u hSw; obtain s1 := hSw; go_simp; try with_reducible rfl
        try simp only [Act.put, List.setIfInBounds_toArray, List.set_cons_zero, List.set_cons_succ]
        refine wpAnyH_take (i := 3) (oi := { dst := some 73, op := _, type := _, pos := _, after := _, guard := _ }) (v := ?_) rfl (by kernel_rfl) (by kernel_rfl) (by kernel_rfl) (fun _ _ _ h => h) (Or.inl ⟨by rfl, ?_⟩) (by assumption) ?_
        rotate_left 1
        · intro u hSw; obtain s1 := hSw; go_simp; try with_reducible rfl
        try simp only [Act.put, List.setIfInBounds_toArray, List.set_cons_zero, List.set_cons_succ]
        refine wpAnyH_ready (rs := [4]) (by kernel_rfl) (by simp) ?_
        refine AllReadyH.cons (o := { dst := some 74, op := _, type := _, pos := _, after := _, guard := _ }) rfl (fun K hK => ?_) AllReadyH.nil
        go_simp
        refine (firstBody_any n hn0 hn1 w3.drew).mono ?_
        rintro e w4 ⟨v4, rfl, ho4, hb4⟩
        obtain ⟨a4, c4, rfl, sl4, lo4⟩ := ho4.sl (fstB_byt n hn0)
        have hz4 : w3.heap.size ≤ w4.heap.size := hb4.size
        have HB4 := hid8 (bd.trans (hb4.mono hz34))
        have HS4 := hid8 sl4
        generalize (fstB n).length = n4 at HS4 ⊢
        clear hb4 ho4 sl4 lo4
        go_wp2_with fail
        refine hK.out _ _ ((HB4.out.cell (p := ⟨gb, 0, none⟩) (by show gb < w3.heap.size; omega)).trans q3) (fun hHeld => ?_)
        clear hK K
        try simp only [Act.put, List.setIfInBounds_toArray, List.set_cons_zero, List.set_cons_succ]
        refine wpAnyH_ready (rs := [5]) (by kernel_rfl) (by simp) ?_
        refine AllReadyH.cons (o := { dst := some 75, op := _, type := _, pos := _, after := _, guard := _ }) rfl (fun K hK => ?_) AllReadyH.nil
        go_simp
        refine (bEqual_any (SL3.out.below HB4.out) HS4.out).mono ?_
        rintro e w5 ⟨rfl, rfl⟩
        rw [hdec]
        go_wp2_with fail
        refine hK.out _ _ ((HB4.out.cell (p := ⟨gb, 0, none⟩) (by show gb < w3.heap.size; omega)).trans q3) (fun hHeld => ?_)
        clear hK K
        try simp only [Act.put, List.setIfInBounds_toArray, List.set_cons_zero, List.set_cons_succ]
        refine wpAnyH_take (i := 6) (oi := { dst := some 76, op := _, type := _, pos := _, after := _, guard := _ }) (v := ?_) rfl (by kernel_rfl) (by kernel_rfl) (by kernel_rfl) (fun _ _ _ h => h) (Or.inl ⟨by rfl, ?_⟩) (by assumption) ?_
        rotate_left 1
        · intro u hSw; obtain s1 := hSw; go_simp; try with_reducible rfl
        try simp only [Act.put, List.setIfInBounds_toArray, List.set_cons_zero, List.set_cons_succ]
        have hrun := HRUN.out
        refine wpAnyH_take (i := 7) (oi := { dst := some 77, op := _, type := _, pos := _, after := _, guard := _ }) (v := ?_) rfl (by kernel_rfl) (by kernel_rfl) (by kernel_rfl) (fun _ _ _ h => h) (Or.inl ⟨by rfl, ?_⟩) (by assumption) ?_
        rotate_left 1
        · intro u hSw; obtain s1 := hSw; go_simp; try with_reducible rfl
        try simp only [Act.put, List.setIfInBounds_toArray, List.set_cons_zero, List.set_cons_succ]
        refine wpAnyH_take (i := 8) (oi := { dst := some 78, op := _, type := _, pos := _, after := _, guard := _ }) (v := ?_) rfl (by kernel_rfl) (by kernel_rfl) (by kernel_rfl) (fun _ _ _ h => h) (Or.inl ⟨by rfl, ?_⟩) (by assumption) ?_
        rotate_left 1
        · intro u hSw; obtain s1 := hSw; go_simp; try with_reducible rfl
        try simp only [Act.put, List.setIfInBounds_toArray, List.set_cons_zero, List.set_cons_succ]
        refine wpAnyH_take (i := 9) (oi := { dst := some 79, op := _, type := _, pos := _, after := _, guard := _ }) (v := ?_) rfl (by kernel_rfl) (by kernel_rfl) (by kernel_rfl) (fun _ _ _ h => h) (Or.inl ⟨by rfl, ?_⟩) (by assumption) ?_
        rotate_left 1
        · intro u hSw; obtain s1 := hSw; go_simp; try with_reducible rfl
        try simp only [Act.put, List.setIfInBounds_toArray, List.set_cons_zero, List.set_cons_succ]
        clear hrun
        have HTA := hid8 (rtake_any (R := ⟨R.begun, M, R.cs⟩) (HPT.out.below HB4.out) (by show R.cs.length + bs'.length ≤ 1000000000; omega) (HM3.out.below HB4.out) (HC3.out.below HB4.out) hr (fun j hj => Nat.lt_of_lt_of_le (hA3.out j hj) hz4) HPB1.out (fun b1 o1 e1 i hi a l c k1 g o e => HPB2.out b1 o1 e1 i hi a l c ((HB4.out.cell (p := ⟨b1, o1 + i, none⟩) (by
          obtain ⟨p1, p2, p3, p4⟩ := HPT.out
          obtain ⟨b2, o2, e2, hlt2, -⟩ := p4 (by omega)
          rw [e1] at e2
          simp only [Option.some.injEq, Addr.mk.injEq] at e2
          show b1 < w3.heap.size
          omega)).symm.trans k1) g o e))
        refine wpAnyH_ready (rs := [10]) (by kernel_rfl) (by simp) ?_
        refine AllReadyH.cons (o := { dst := some 80, op := _, type := _, pos := _, after := _, guard := _ }) rfl (fun K hK => ?_) AllReadyH.nil
        go_simp
        refine HTA.out.mono ?_
        rintro e w6 ⟨hres, hf6⟩
        have HF6 := hid8 hf6
        have q6 : w6.cell? ⟨gb, 0, none⟩ = some (.slice a0 l0 c0) := (hf6.cell (p := ⟨gb, 0, none⟩) (by show gb < _; omega) (fun k => by
          rcases k with k | k
          · have := HA.out gb k; omega
          · exact hgr k)).trans ((HB4.out.cell (p := ⟨gb, 0, none⟩) (by show gb < w3.heap.size; omega)).trans q3)
        clear HTA hf6
        obtain ⟨bv, hres⟩ : ∃ bv, Hid (e = .returned (.bool bv) ∧ ((bv = true ∧ ∃ k v', coms bs' = some k ∧ Rm w6 r v' ⟨R.begun, M, R.cs ++ k⟩ ∧ CRow w6 (Land.more A _ w6) v' (R.cs ++ k)) ∨ bv = false ∧ coms bs' = none)) := by
          rcases hres with ⟨k, v', h1, h2, h3, h4⟩ | ⟨h1, h2⟩
          · exact ⟨true, h2, .inl ⟨rfl, k, v', h1, h3, h4⟩⟩
          · exact ⟨false, h2, .inr ⟨rfl, h1⟩⟩
        obtain rfl := hres.out.1
        have HRS := hid8 hres.out.2
        clear hres
        go_wp2_with fail
        refine hK.out _ _ (q6) (fun hHeld => ?_)
        clear hK K
        try simp only [Act.put, List.setIfInBounds_toArray, List.set_cons_zero, List.set_cons_succ]
        refine wpAnyH_take (i := 11) (oi := { dst := some 81, op := _, type := _, pos := _, after := _, guard := _ }) (v := ?_) rfl (by kernel_rfl) (by kernel_rfl) (by kernel_rfl) (fun _ _ _ h => h) (Or.inl ⟨by rfl, ?_⟩) (by assumption) ?_
        rotate_left 1
        · intro u hSw; obtain s1 := hSw; go_simp; try with_reducible rfl
        try simp only [Act.put, List.setIfInBounds_toArray, List.set_cons_zero, List.set_cons_succ]
        refine wpAnyH_take (i := 12) (oi := { dst := some 6, op := _, type := _, pos := _, after := _, guard := _ }) (v := ?_) rfl (by kernel_rfl) (by kernel_rfl) (by kernel_rfl) (fun _ _ _ h => h) (Or.inl ⟨by rfl, ?_⟩) (by assumption) ?_
        rotate_left 1
        · intro u hSw; obtain s1 := hSw; go_simp; try with_reducible rfl
        try simp only [Act.put, List.setIfInBounds_toArray, List.set_cons_zero, List.set_cons_succ]
        refine wpAnyH_done (by kernel_rfl) ?_ _
        refine NoPanic.normal ?_
        go_wp2
        go_ret
        have FW : Fr (fun j => A j ∨ j = r) w w6 := (HF3.out.trans (Fr.below HB4.out) (fun j e => .inl e)).trans HF6.out (fun j e => .inl e)
        rcases HRS.out with ⟨rfl, k, v', h1, h3, h4⟩ | ⟨rfl, h1⟩
        · refine ⟨.inl ⟨⟨R.begun, M, R.cs ++ k⟩, v', HSG.out _ ?_, rfl, h3, h4.mono (fun j _ hj => ?_)⟩, FW⟩
          · unfold seg2
            simp only []
            rw [if_pos HBF.out, h1, ← HMM.out]
            rfl
          · rcases hj with q | q
            · exact .inl q
            · exact .inr ⟨by have := q.1; omega, q.2⟩
        · refine ⟨.inr ⟨HSG.out _ ?_, rfl⟩, FW⟩
          unfold seg2
          simp only []
          rw [if_pos HBF.out, h1]
          rfl
      · have HBF := hid8 hbf
        have hdec : decide (b = fstB n) = false := by simpa using hbf
        clear hbf
        refine wp_region_noPanic ?_
        refine wp_region_held_drew (S := (fun u : World => u.cell? ⟨gb, 0, none⟩ = some (.slice a0 l0 c0))) (by kernel_rfl) (q3) (fun hHeld => ?_)
        refine wpAnyH_take (i := 0) (oi := { dst := some 70, op := _, type := _, pos := _, after := _, guard := _ }) (v := ?_) rfl (by kernel_rfl) (by kernel_rfl) (by kernel_rfl) (fun _ _ _ h => h) (Or.inl ⟨by rfl, ?_⟩) (by assumption) ?_
        rotate_left 1
        · intro u hSw; obtain s1 := hSw; go_simp; try with_reducible rfl
        try simp only [Act.put, List.setIfInBounds_toArray, List.set_cons_zero, List.set_cons_succ]
        refine wpAnyH_take (i := 1) (oi := { dst := some 71, op := _, type := _, pos := _, after := _, guard := _ }) (v := ?_) rfl (by kernel_rfl) (by kernel_rfl) (by kernel_rfl) (fun _ _ _ h => h) (Or.inl ⟨by rfl, ?_⟩) (by assumption) ?_
        rotate_left 1
        · intro u hSw; obtain s1 := hSw; go_simp; try with_reducible rfl
        try simp only [Act.put, List.setIfInBounds_toArray, List.set_cons_zero, List.set_cons_succ]
        refine wpAnyH_take (i := 2) (oi := { dst := some 72, op := _, type := _, pos := _, after := _, guard := _ }) (v := ?_) rfl (by kernel_rfl) (by kernel_rfl) (by kernel_rfl) (fun _ _ _ h => h) (Or.inl ⟨by rfl, ?_⟩) (by assumption) ?_
        rotate_left 1
        · intro u hSw; obtain s1 := hSw; go_simp; try with_reducible rfl
        try simp only [Act.put, List.setIfInBounds_toArray, List.set_cons_zero, List.set_cons_succ]
        refine wpAnyH_take (i := 3) (oi := { dst := some 73, op := _, type := _, pos := _, after := _, guard := _ }) (v := ?_) rfl (by kernel_rfl) (by kernel_rfl) (by kernel_rfl) (fun _ _ _ h => h) (Or.inl ⟨by rfl, ?_⟩) (by assumption) ?_
        rotate_left 1
        · intro u hSw; obtain s1 := hSw; go_simp; try with_reducible rfl
        try simp only [Act.put, List.setIfInBounds_toArray, List.set_cons_zero, List.set_cons_succ]
        refine wpAnyH_ready (rs := [4]) (by kernel_rfl) (by simp) ?_
        refine AllReadyH.cons (o := { dst := some 74, op := _, type := _, pos := _, after := _, guard := _ }) rfl (fun K hK => ?_) AllReadyH.nil
        go_simp
        refine (firstBody_any n hn0 hn1 w3.drew).mono ?_
        rintro e w4 ⟨v4, rfl, ho4, hb4⟩
        obtain ⟨a4, c4, rfl, sl4, lo4⟩ := ho4.sl (fstB_byt n hn0)
        have hz4 : w3.heap.size ≤ w4.heap.size := hb4.size
        have HB4 := hid8 (bd.trans (hb4.mono hz34))
        have HS4 := hid8 sl4
        generalize (fstB n).length = n4 at HS4 ⊢
        clear hb4 ho4 sl4 lo4
        go_wp2_with fail
        refine hK.out _ _ ((HB4.out.cell (p := ⟨gb, 0, none⟩) (by show gb < w3.heap.size; omega)).trans q3) (fun hHeld => ?_)
        clear hK K
        try simp only [Act.put, List.setIfInBounds_toArray, List.set_cons_zero, List.set_cons_succ]
        refine wpAnyH_ready (rs := [5]) (by kernel_rfl) (by simp) ?_
        refine AllReadyH.cons (o := { dst := some 75, op := _, type := _, pos := _, after := _, guard := _ }) rfl (fun K hK => ?_) AllReadyH.nil
        go_simp
        refine (bEqual_any (SL3.out.below HB4.out) HS4.out).mono ?_
        rintro e w5 ⟨rfl, rfl⟩
        rw [hdec]
        go_wp2_with fail
        refine hK.out _ _ ((HB4.out.cell (p := ⟨gb, 0, none⟩) (by show gb < w3.heap.size; omega)).trans q3) (fun hHeld => ?_)
        clear hK K
        try simp only [Act.put, List.setIfInBounds_toArray, List.set_cons_zero, List.set_cons_succ]
        refine wpAnyH_take (i := 6) (oi := { dst := some 76, op := _, type := _, pos := _, after := _, guard := _ }) (v := ?_) rfl (by kernel_rfl) (by kernel_rfl) (by kernel_rfl) (fun _ _ _ h => h) (Or.inl ⟨by rfl, ?_⟩) (by assumption) ?_
        rotate_left 1
        · intro u hSw; obtain s1 := hSw; go_simp; try with_reducible rfl
        try simp only [Act.put, List.setIfInBounds_toArray, List.set_cons_zero, List.set_cons_succ]
        refine wpAnyH_take (i := 7) (oi := { dst := some 77, op := _, type := _, pos := _, after := _, guard := _ }) (v := undef) rfl (by kernel_rfl) (by kernel_rfl) (by kernel_rfl) (fun _ _ _ h => h) (Or.inr ⟨by rfl, by rfl⟩) (by assumption) ?_
        try simp only [Act.put, List.setIfInBounds_toArray, List.set_cons_zero, List.set_cons_succ]
        refine wpAnyH_take (i := 8) (oi := { dst := some 78, op := _, type := _, pos := _, after := _, guard := _ }) (v := undef) rfl (by kernel_rfl) (by kernel_rfl) (by kernel_rfl) (fun _ _ _ h => h) (Or.inr ⟨by rfl, by rfl⟩) (by assumption) ?_
        try simp only [Act.put, List.setIfInBounds_toArray, List.set_cons_zero, List.set_cons_succ]
        refine wpAnyH_take (i := 9) (oi := { dst := some 79, op := _, type := _, pos := _, after := _, guard := _ }) (v := undef) rfl (by kernel_rfl) (by kernel_rfl) (by kernel_rfl) (fun _ _ _ h => h) (Or.inr ⟨by rfl, by rfl⟩) (by assumption) ?_
        try simp only [Act.put, List.setIfInBounds_toArray, List.set_cons_zero, List.set_cons_succ]
        refine wpAnyH_take (i := 10) (oi := { dst := some 80, op := _, type := _, pos := _, after := _, guard := _ }) (v := undef) rfl (by kernel_rfl) (by kernel_rfl) (by kernel_rfl) (fun _ _ _ h => h) (Or.inr ⟨by rfl, by rfl⟩) (by assumption) ?_
        try simp only [Act.put, List.setIfInBounds_toArray, List.set_cons_zero, List.set_cons_succ]
        refine wpAnyH_take (i := 11) (oi := { dst := some 81, op := _, type := _, pos := _, after := _, guard := _ }) (v := ?_) rfl (by kernel_rfl) (by kernel_rfl) (by kernel_rfl) (fun _ _ _ h => h) (Or.inl ⟨by rfl, ?_⟩) (by assumption) ?_
        rotate_left 1
        · intro u hSw; obtain s1 := hSw; go_simp; try with_reducible rfl
        try simp only [Act.put, List.setIfInBounds_toArray, List.set_cons_zero, List.set_cons_succ]
        refine wpAnyH_take (i := 12) (oi := { dst := some 6, op := _, type := _, pos := _, after := _, guard := _ }) (v := ?_) rfl (by kernel_rfl) (by kernel_rfl) (by kernel_rfl) (fun _ _ _ h => h) (Or.inl ⟨by rfl, ?_⟩) (by assumption) ?_
        rotate_left 1
        · intro u hSw; obtain s1 := hSw; go_simp; try with_reducible rfl
        try simp only [Act.put, List.setIfInBounds_toArray, List.set_cons_zero, List.set_cons_succ]
        refine wpAnyH_done (by kernel_rfl) ?_ _
        refine NoPanic.normal ?_
        go_wp2
        go_ret
        refine ⟨.inr ⟨HSG.out _ ?_, rfl⟩, HF3.out.trans (Fr.below HB4.out) (fun j e => .inl e)⟩
        unfold seg2
        simp only []
        rw [if_neg HBF.out]
end
end Go.Proofs.YthfcjfhaoabdeaaGreatDoor

/-
  The reader's read of a segment: the first that has a whole frame; all cases. (Printed by gen_w13b.py.)
-/
set_option linter.unusedVariables false
set_option linter.unusedSimpArgs false
namespace Go.Proofs.YthfcjfhaoabdeaaGreatDoor
open Go.RowKit

section
variable {w : World} {r : Nat} {v : Value} {R : Rdr} {A : Nat → Prop} {ao : Option Addr} {len cap : Nat} {xs : List Int}

set_option maxRecDepth 100000 in
set_option maxHeartbeats 8000000 in
theorem rread_first (hsl : Sl w ao len cap xs) (hlen : len ≤ 262144) (hm : Rm w r v R) (hnx : R.next < 18446744073709551616) (hc : CRow w A v R.cs) (hcs : R.cs.length ≤ 100000000) (hr : ¬ A r) (hA : ∀ j, A j → j < w.heap.size) (n : Int) (hn0 : 0 ≤ n) (hn1 : n ≤ 9223372036854775807) {seq : Nat} {body : List Int} (ht : takA xs 0 = some (seq, body)) (hs2 : seq < 18446744073709551616) (hbg : R.begun = false) (hxr : 0 < len → ∀ b off, ao = some ⟨b, off, none⟩ → ¬ b = r) :
    Calls Tryz.prog 77 #[.pointer (some ⟨r, 0, none⟩), .slice ao len cap, .int .i64 n] w fun e w' => RdL w w' r R A xs n e := by
  have HTK := hid8 (ftake_any ao len cap xs 0 w hsl (by omega))
  have N1 : Hid (R.nx xs = seq) := hid8 (by unfold Rdr.nx; rw [ht, hbg]; rfl)
  have B1 : Hid (R.bg xs = true) := hid8 (by unfold Rdr.bg; rw [ht]; simp)
  have HNX := hid8 hs2
  have HXR := hid8 hxr
  clear hxr
  have H0 : Hid (∀ q, takA xs 0 = some q → q.1 = R.nx xs) := hid8 (fun q h => by rw [ht] at h; simp only [Option.some.injEq] at h; rw [N1.out, ← h])
  have HRW := hid8 hm.lt
  have HA := hid8 hA
  have HM := hid8 hm
  have HC := hid8 hc
  have HSL := hid8 hsl
  have HT := hid8 ht
  clear hsl hm hc hA ht hnx
  go_enter Tryz.func77, Tryz.ntmps77
  go_wp2_with fail
  refine HTK.out.mono ?_
  rintro e w1 ⟨hres, hb1⟩
  rcases hres with ⟨seq', body', v1, g, hk, rfl, hbd⟩ | ⟨hk, -⟩
  rotate_left
  · rw [HT.out] at hk
    cases hk
  rw [HT.out] at hk
  simp only [Option.some.injEq, Prod.mk.injEq] at hk
  obtain ⟨rfl, rfl⟩ := hk
  obtain ⟨-, -, a1, c1, rfl, -, -⟩ := hbd
  have M1 := HM.out.below hb1
  obtain ⟨y1, y2, y3⟩ := M1.cells
  have g0 := M1.free 0
  have g1 := M1.free 1
  have hr0 := M1.lt
  rw [hbg] at y1
  have M1' : Rm ((w1.setCell ⟨r, 0, none⟩ (.bool true)).setCell ⟨r, 1, none⟩ (.int .u64 (seq : Int))) r v ⟨true, seq, R.cs⟩ := (Go.Joins.block_setCell ((Go.Joins.block_setCell M1 _).trans rfl) _).trans rfl
  have F1' : Fr (fun j => j = r) w1 ((w1.setCell ⟨r, 0, none⟩ (.bool true)).setCell ⟨r, 1, none⟩ (.int .u64 (seq : Int))) := Fr.setCell (F := fun j => j = r) (p := ⟨r, 1, none⟩) (Fr.setCell (F := fun j => j = r) (p := ⟨r, 0, none⟩) (Fr.refl _ w1) (.inl rfl) _) (.inl rfl) _
  have hz01 := hb1.size
  have HM1 := hid8 M1'
  have HC1 := hid8 (show CRow ((w1.setCell ⟨r, 0, none⟩ (.bool true)).setCell ⟨r, 1, none⟩ (.int .u64 (seq : Int))) A v R.cs from (HC.out.below hb1).same (fun j hj => F1'.block j (by have := HA.out j hj; omega) (fun e => hr (by rw [← e]; exact hj))))
  have HSL1 := hid8 ((HSL.out.below hb1).fr F1' HXR.out)
  have HZ1 : Hid (w.heap.size ≤ ((w1.setCell ⟨r, 0, none⟩ (.bool true)).setCell ⟨r, 1, none⟩ (.int .u64 (seq : Int))).heap.size) := hid8 (by have := F1'.size; omega)
  have HF1 : Hid (Fr (fun j => A j ∨ j = r) w ((w1.setCell ⟨r, 0, none⟩ (.bool true)).setCell ⟨r, 1, none⟩ (.int .u64 (seq : Int)))) := hid8 (((Fr.refl _ w).trans (Fr.below hb1) (fun j e => .inl e)).trans F1' (fun j e => .inl (.inr e)))
  have x2 := M1'.cells.2.1
  have xr := M1'.lt
  clear M1 M1' F1' HTK hb1 HM HC HSL HT
  go_wp2_with fail
  generalize hW1 : (w1.setCell ⟨r, 0, none⟩ (.bool true)).setCell ⟨r, 1, none⟩ (.int .u64 (seq : Int)) = w1' at *
  clear y1 y2 y3 g0 g1 hr0 hW1 hz01 w1
  obtain ⟨w1, hw1⟩ : ∃ w1, w1 = w1' := ⟨_, rfl⟩
  subst hw1
  have hnx : seq < 18446744073709551616 := HNX.out
  have HAL := hid8 (all_any ao len cap xs ((seq : Nat) : Int) w1 HSL1.out (by omega) (by omega) (by omega))
  rw [Int.toNat_natCast] at HAL
  obtain ⟨t1, t2, t3⟩ := HM1.out.cells
  have hr1 := HM1.out.lt

  refine HAL.out.mono ?_
  rintro e w2 ⟨⟨bs, a, f, hg, hst, hres⟩, hb2⟩
  have hz2 := hb2.size
  have HM2 := hid8 (HM1.out.below hb2)
  have HC2 := hid8 (HC1.out.below hb2)
  have HF2 := hid8 (HF1.out.trans (Fr.below hb2) (fun j e => .inl e))
  have HG := hid8 hg
  have HST := hid8 hst
  have hbl : bs.length ≤ 1000000 := by
    have h1 := goes_le HSL1.out.2.2.2.1 bs _ _ _ _ hg (Nat.zero_le _) rfl hnx
    have h2 := HSL1.out.1
    omega
  clear HAL hg hst hb2 HM1 HC1 HF1 t1 t2 t3
  rcases hres with ⟨hlate, rfl⟩ | ⟨hnl, v2, rfl, hBs⟩
  · have HL := hid8 hlate
    clear hlate
    go_wp2
    go_ret
    exact ⟨.inr ⟨segR_late H0.out (by rw [N1.out]; exact HG.out) HST.out HL.out, rfl⟩, HF2.out⟩
  · obtain ⟨ab, cb, rfl, hpl, hab, hbb⟩ := hBs.pl
    have HNL := hid8 hnl
    obtain ⟨t1, t2, t3⟩ := HM2.out.cells
    have hr2 := HM2.out.lt
    have f1 := HM2.out.free 1
    have hu1 : IntKind.u64.wrap (bs.length : Int) = (bs.length : Int) := by rw [IntKind.wrap_u64]; omega
    have hu2 : IntKind.u64.wrap ((seq : Int) + (bs.length : Int)) = (((seq + bs.length) % 18446744073709551616 : Nat) : Int) := by rw [IntKind.wrap_u64]; omega
    have M3 : Rm (w2.setCell ⟨r, 1, none⟩ (.int .u64 (((seq + bs.length) % 18446744073709551616 : Nat) : Int))) r v ⟨true, (seq + bs.length) % 18446744073709551616, R.cs⟩ := (Go.Joins.block_setCell HM2.out _).trans rfl
    have F23 : Fr (fun j => j = r) w2 (w2.setCell ⟨r, 1, none⟩ (.int .u64 (((seq + bs.length) % 18446744073709551616 : Nat) : Int))) := Fr.setCell (F := fun j => j = r) (p := ⟨r, 1, none⟩) (Fr.refl _ w2) (.inl rfl) _
    have hrw : r < w.heap.size := HRW.out
    have HM3 := hid8 M3
    have HC3 := hid8 (show CRow (w2.setCell ⟨r, 1, none⟩ (.int .u64 (((seq + bs.length) % 18446744073709551616 : Nat) : Int))) A v R.cs from HC2.out.same (fun j hj => F23.block j (by have := HA.out j hj; have := HF2.out.size; omega) (fun e => hr (by rw [← e]; exact hj))))
    have HF3 := hid8 (HF2.out.trans F23 (fun j e => .inl (.inr e)))
    have hz3 : (w2.setCell ⟨r, 1, none⟩ (.int .u64 (((seq + bs.length) % 18446744073709551616 : Nat) : Int))).heap.size = w2.heap.size := by simp [World.setCell]
    cases bs with
    | nil =>
      have e0 : (seq + ([] : List (List Int)).length) % 18446744073709551616 = seq := by simp; omega
      rw [e0] at HM3 HC3 HF3
      clear hpl hab hbb hBs hnl M3 F23
      go_wp2
      go_ret
      refine ⟨.inl ⟨⟨true, seq, R.cs⟩, v, segR_some H0.out (by rw [N1.out]; exact HG.out) HST.out HNL.out (by rw [N1.out, B1.out]; rfl), rfl, HM3.out, HC3.out.mono (fun j _ hj => .inl hj)⟩, HF3.out⟩
    | cons b bs' =>
      have hb0 := hpl.2.2.2 (by simp)
      obtain ⟨gb, ob, rfl, hgl, hcell⟩ := hb0
      obtain ⟨hgb, rfl⟩ := hab gb ob rfl
      obtain ⟨a0, l0, c0, q0, sl0⟩ := hcell 0 (by simp)
      have sl0' : Sl w2 a0 l0 c0 b := by simpa [List.getD] using sl0
      have ha0 : ∀ g o, a0 = some ⟨g, o, none⟩ → w1.heap.size ≤ g := hbb gb 0 rfl 0 (by simp) a0 l0 c0 q0
      have hz1 := HZ1.out
      obtain ⟨at', hrun, hplt, hat⟩ := Pl.tail hpl
      have hgr : gb ≠ r := by omega
      have q3 : (w2.setCell ⟨r, 1, none⟩ (.int .u64 (((seq + (b :: bs').length) % 18446744073709551616 : Nat) : Int))).cell? ⟨gb, 0, none⟩ = some (.slice a0 l0 c0) := (F23.cell (p := ⟨gb, 0, none⟩) hgl hgr).trans q0
      have SL3 := hid8 (sl0'.fr F23 (fun _ g o e k => by have := ha0 g o e; omega))
      have hplt3 : Pl (w2.setCell ⟨r, 1, none⟩ (.int .u64 (((seq + (b :: bs').length) % 18446744073709551616 : Nat) : Int))) at' bs'.length (cb - 1) bs' := by
        obtain ⟨p1, p2, p3, p4⟩ := hplt
        refine ⟨p1, p2, p3, fun hl => ?_⟩
        obtain ⟨b1, o1, e1, hlt1, hc1⟩ := p4 hl
        obtain ⟨rfl, ho1⟩ := hat b1 o1 e1
        have ho1 := ho1 hl
        subst ho1
        refine ⟨b1, 1, e1, by omega, fun i hi => ?_⟩
        obtain ⟨a, l, c, k1, k2⟩ := hc1 i hi
        refine ⟨a, l, c, (F23.cell (p := ⟨b1, 1 + i, none⟩) hlt1 hgr).trans k1, k2.fr F23 (fun _ g o e k => ?_)⟩
        have := hbb b1 0 rfl (i + 1) (by simp; omega) a l c (by rw [show (0 : Nat) + (i + 1) = 1 + i from by omega]; exact k1) g o e
        omega
      have hpbt : ∀ b1 off1, at' = some ⟨b1, off1, none⟩ → ¬ A b1 ∧ b1 ≠ r := fun b1 o1 e1 => by
        obtain ⟨rfl, -⟩ := hat b1 o1 e1
        exact ⟨fun k => by have := HA.out b1 k; omega, hgr⟩
      have hpbb : ∀ b1 off1, at' = some ⟨b1, off1, none⟩ → ∀ i, i < bs'.length → ∀ a l c, (w2.setCell ⟨r, 1, none⟩ (.int .u64 (((seq + (b :: bs').length) % 18446744073709551616 : Nat) : Int))).cell? ⟨b1, off1 + i, none⟩ = some (.slice a l c) → ∀ g o, a = some ⟨g, o, none⟩ → ¬ A g ∧ g ≠ r := fun b1 o1 e1 i hi a l c k1 g o e => by
        obtain ⟨rfl, ho1⟩ := hat b1 o1 e1
        have ho1 := ho1 (by omega)
        subst ho1
        have k2 := (F23.cell (p := ⟨b1, 1 + i, none⟩) hgl hgr).symm.trans k1
        have := hbb b1 0 rfl (i + 1) (by simp; omega) a l c (by rw [show (0 : Nat) + (i + 1) = 1 + i from by omega]; exact k2) g o e
        exact ⟨fun k => by have := HA.out g k; omega, by omega⟩
      have HPT := hid8 hplt3
      have HPB1 := hid8 hpbt
      have HPB2 := hid8 hpbb
      have HRUN := hid8 hrun
      have hA3 : Hid (∀ j, A j → j < (w2.setCell ⟨r, 1, none⟩ (.int .u64 (((seq + (b :: bs').length) % 18446744073709551616 : Nat) : Int))).heap.size) := hid8 (fun j hj => by have := HA.out j hj; have := HF2.out.size; omega)
      have hbl2 : bs'.length ≤ 1000000 := by simp only [List.length_cons] at hbl; omega
      have hl1 : ((bs'.length : Int) + 1 == 0) = false := by simp; omega
      have hl2 : ¬ (bs'.length : Int) + 1 = 0 := by omega
      have HSG : Hid (∀ x, x = seg2 n (b :: bs') true seq R.cs → SegR xs n R x) := hid8 (fun x hx => segR_some H0.out (by rw [N1.out]; exact HG.out) HST.out HNL.out (by rw [N1.out, B1.out]; exact hx))
      clear hpl hab hbb hBs hnl M3 F23 hcell sl0 sl0' hplt3 hpbt hpbb hplt hrun HG HST HNL H0 N1 B1 HM2 HC2 HF2 t1 t3 hat q0
      have hM : ((seq + (b :: bs').length) % 18446744073709551616 : Nat) = (seq + (bs'.length + 1)) % 18446744073709551616 := by simp
      have hu1a : IntKind.u64.wrap ((bs'.length : Int) + 1) = (bs'.length : Int) + 1 := by rw [IntKind.wrap_u64]; omega
      have hu2a : IntKind.u64.wrap ((seq : Int) + ((bs'.length : Int) + 1)) = (((seq + (b :: bs').length) % 18446744073709551616 : Nat) : Int) := by rw [hM, IntKind.wrap_u64]; omega
      generalize hMM : (seq + (b :: bs').length) % 18446744073709551616 = M at *
      have HMM := hid8 hMM
      clear hM hMM hu1 hu2
      go_wp2
      generalize hW3 : w2.setCell ⟨r, 1, none⟩ (.int .u64 (M : Int)) = w3 at *
      have bd := below_dr w3
      have hz34 : w3.heap.size ≤ w3.drew.heap.size := Nat.le_refl _
      by_cases hbf : b = fstB n
      · have HBF := hid8 hbf
        have hdec : decide (b = fstB n) = true := by simpa using hbf
        clear hbf
        refine wp_region_noPanic ?_
        refine wp_region_held_drew (S := (fun u : World => u.cell? ⟨gb, 0, none⟩ = some (.slice a0 l0 c0))) (by kernel_rfl) (q3) (fun hHeld => ?_)
        refine wpAnyH_take (i := 0) (oi := { dst := some 70, op := _, type := _, pos := _, after := _, guard := _ }) (v := ?_) rfl (by kernel_rfl) (by kernel_rfl) (by kernel_rfl) (fun _ _ _ h => h) (Or.inl ⟨by rfl, ?_⟩) (by assumption) ?_
        rotate_left 1
        · intro u hSw; obtain s1 := hSw; go_simp; try with_reducible rfl
        try simp only [Act.put, List.setIfInBounds_toArray, List.set_cons_zero, List.set_cons_succ]
        refine wpAnyH_take (i := 1) (oi := { dst := some 71, op := _, type := _, pos := _, after := _, guard := _ }) (v := ?_) rfl (by kernel_rfl) (by kernel_rfl) (by kernel_rfl) (fun _ _ _ h => h) (Or.inl ⟨by rfl, ?_⟩) (by assumption) ?_
        rotate_left 1
        · intro u hSw; obtain s1 := hSw; go_simp; try with_reducible rfl
        try simp only [Act.put, List.setIfInBounds_toArray, List.set_cons_zero, List.set_cons_succ]
        refine wpAnyH_take (i := 2) (oi := { dst := some 72, op := _, type := _, pos := _, after := _, guard := _ }) (v := ?_) rfl (by kernel_rfl) (by kernel_rfl) (by kernel_rfl) (fun _ _ _ h => h) (Or.inl ⟨by rfl, ?_⟩) (by assumption) ?_
        rotate_left 1
        · intro u hSw; obtain s1 := hSw; go_simp; try with_reducible rfl
        try simp only [Act.put, List.setIfInBounds_toArray, List.set_cons_zero, List.set_cons_succ]
        refine wpAnyH_take (i := 3) (oi := { dst := some 73, op := _, type := _, pos := _, after := _, guard := _ }) (v := ?_) rfl (by kernel_rfl) (by kernel_rfl) (by kernel_rfl) (fun _ _ _ h => h) (Or.inl ⟨by rfl, ?_⟩) (by assumption) ?_
        rotate_left 1
        · intro u hSw; obtain s1 := hSw; go_simp; try with_reducible rfl
        try simp only [Act.put, List.setIfInBounds_toArray, List.set_cons_zero, List.set_cons_succ]
        refine wpAnyH_ready (rs := [4]) (by kernel_rfl) (by simp) ?_
        refine AllReadyH.cons (o := { dst := some 74, op := _, type := _, pos := _, after := _, guard := _ }) rfl (fun K hK => ?_) AllReadyH.nil
        go_simp
        refine (firstBody_any n hn0 hn1 w3.drew).mono ?_
        rintro e w4 ⟨v4, rfl, ho4, hb4⟩
        obtain ⟨a4, c4, rfl, sl4, lo4⟩ := ho4.sl (fstB_byt n hn0)
        have hz4 : w3.heap.size ≤ w4.heap.size := hb4.size
        have HB4 := hid8 (bd.trans (hb4.mono hz34))
        have HS4 := hid8 sl4
        generalize (fstB n).length = n4 at HS4 ⊢
        clear hb4 ho4 sl4 lo4
        go_wp2_with fail
        refine hK.out _ _ ((HB4.out.cell (p := ⟨gb, 0, none⟩) (by show gb < w3.heap.size; omega)).trans q3) (fun hHeld => ?_)
        clear hK K
        try simp only [Act.put, List.setIfInBounds_toArray, List.set_cons_zero, List.set_cons_succ]
        refine wpAnyH_ready (rs := [5]) (by kernel_rfl) (by simp) ?_
        refine AllReadyH.cons (o := { dst := some 75, op := _, type := _, pos := _, after := _, guard := _ }) rfl (fun K hK => ?_) AllReadyH.nil
        go_simp
        refine (bEqual_any (SL3.out.below HB4.out) HS4.out).mono ?_
        rintro e w5 ⟨rfl, rfl⟩
        rw [hdec]
        go_wp2_with fail
        refine hK.out _ _ ((HB4.out.cell (p := ⟨gb, 0, none⟩) (by show gb < w3.heap.size; omega)).trans q3) (fun hHeld => ?_)
        clear hK K
        try simp only [Act.put, List.setIfInBounds_toArray, List.set_cons_zero, List.set_cons_succ]
        refine wpAnyH_take (i := 6) (oi := { dst := some 76, op := _, type := _, pos := _, after := _, guard := _ }) (v := ?_) rfl (by kernel_rfl) (by kernel_rfl) (by kernel_rfl) (fun _ _ _ h => h) (Or.inl ⟨by rfl, ?_⟩) (by assumption) ?_
        rotate_left 1
        · intro u hSw; obtain s1 := hSw; go_simp; try with_reducible rfl
        try simp only [Act.put, List.setIfInBounds_toArray, List.set_cons_zero, List.set_cons_succ]
        have hrun := HRUN.out
        refine wpAnyH_take (i := 7) (oi := { dst := some 77, op := _, type := _, pos := _, after := _, guard := _ }) (v := ?_) rfl (by kernel_rfl) (by kernel_rfl) (by kernel_rfl) (fun _ _ _ h => h) (Or.inl ⟨by rfl, ?_⟩) (by assumption) ?_
        rotate_left 1
        · intro u hSw; obtain s1 := hSw; go_simp; try with_reducible rfl
        try simp only [Act.put, List.setIfInBounds_toArray, List.set_cons_zero, List.set_cons_succ]
        refine wpAnyH_take (i := 8) (oi := { dst := some 78, op := _, type := _, pos := _, after := _, guard := _ }) (v := ?_) rfl (by kernel_rfl) (by kernel_rfl) (by kernel_rfl) (fun _ _ _ h => h) (Or.inl ⟨by rfl, ?_⟩) (by assumption) ?_
        rotate_left 1
        · intro u hSw; obtain s1 := hSw; go_simp; try with_reducible rfl
        try simp only [Act.put, List.setIfInBounds_toArray, List.set_cons_zero, List.set_cons_succ]
        refine wpAnyH_take (i := 9) (oi := { dst := some 79, op := _, type := _, pos := _, after := _, guard := _ }) (v := ?_) rfl (by kernel_rfl) (by kernel_rfl) (by kernel_rfl) (fun _ _ _ h => h) (Or.inl ⟨by rfl, ?_⟩) (by assumption) ?_
        rotate_left 1
        · intro u hSw; obtain s1 := hSw; go_simp; try with_reducible rfl
        try simp only [Act.put, List.setIfInBounds_toArray, List.set_cons_zero, List.set_cons_succ]
        clear hrun
        have HTA := hid8 (rtake_any (R := ⟨true, M, R.cs⟩) (HPT.out.below HB4.out) (by show R.cs.length + bs'.length ≤ 1000000000; omega) (HM3.out.below HB4.out) (HC3.out.below HB4.out) hr (fun j hj => Nat.lt_of_lt_of_le (hA3.out j hj) hz4) HPB1.out (fun b1 o1 e1 i hi a l c k1 g o e => HPB2.out b1 o1 e1 i hi a l c ((HB4.out.cell (p := ⟨b1, o1 + i, none⟩) (by
          obtain ⟨p1, p2, p3, p4⟩ := HPT.out
          obtain ⟨b2, o2, e2, hlt2, -⟩ := p4 (by omega)
          rw [e1] at e2
          simp only [Option.some.injEq, Addr.mk.injEq] at e2
          show b1 < w3.heap.size
          omega)).symm.trans k1) g o e))
        refine wpAnyH_ready (rs := [10]) (by kernel_rfl) (by simp) ?_
        refine AllReadyH.cons (o := { dst := some 80, op := _, type := _, pos := _, after := _, guard := _ }) rfl (fun K hK => ?_) AllReadyH.nil
        go_simp
        refine HTA.out.mono ?_
        rintro e w6 ⟨hres, hf6⟩
        have HF6 := hid8 hf6
        have q6 : w6.cell? ⟨gb, 0, none⟩ = some (.slice a0 l0 c0) := (hf6.cell (p := ⟨gb, 0, none⟩) (by show gb < _; omega) (fun k => by
          rcases k with k | k
          · have := HA.out gb k; omega
          · exact hgr k)).trans ((HB4.out.cell (p := ⟨gb, 0, none⟩) (by show gb < w3.heap.size; omega)).trans q3)
        clear HTA hf6
        obtain ⟨bv, hres⟩ : ∃ bv, Hid (e = .returned (.bool bv) ∧ ((bv = true ∧ ∃ k v', coms bs' = some k ∧ Rm w6 r v' ⟨true, M, R.cs ++ k⟩ ∧ CRow w6 (Land.more A _ w6) v' (R.cs ++ k)) ∨ bv = false ∧ coms bs' = none)) := by
          rcases hres with ⟨k, v', h1, h2, h3, h4⟩ | ⟨h1, h2⟩
          · exact ⟨true, h2, .inl ⟨rfl, k, v', h1, h3, h4⟩⟩
          · exact ⟨false, h2, .inr ⟨rfl, h1⟩⟩
        obtain rfl := hres.out.1
        have HRS := hid8 hres.out.2
        clear hres
        go_wp2_with fail
        refine hK.out _ _ (q6) (fun hHeld => ?_)
        clear hK K
        try simp only [Act.put, List.setIfInBounds_toArray, List.set_cons_zero, List.set_cons_succ]
        refine wpAnyH_take (i := 11) (oi := { dst := some 81, op := _, type := _, pos := _, after := _, guard := _ }) (v := ?_) rfl (by kernel_rfl) (by kernel_rfl) (by kernel_rfl) (fun _ _ _ h => h) (Or.inl ⟨by rfl, ?_⟩) (by assumption) ?_
        rotate_left 1
        · intro u hSw; obtain s1 := hSw; go_simp; try with_reducible rfl
        try simp only [Act.put, List.setIfInBounds_toArray, List.set_cons_zero, List.set_cons_succ]
        refine wpAnyH_take (i := 12) (oi := { dst := some 6, op := _, type := _, pos := _, after := _, guard := _ }) (v := ?_) rfl (by kernel_rfl) (by kernel_rfl) (by kernel_rfl) (fun _ _ _ h => h) (Or.inl ⟨by rfl, ?_⟩) (by assumption) ?_
        rotate_left 1
        · intro u hSw; obtain s1 := hSw; go_simp; try with_reducible rfl
        try simp only [Act.put, List.setIfInBounds_toArray, List.set_cons_zero, List.set_cons_succ]
        refine wpAnyH_done (by kernel_rfl) ?_ _
        refine NoPanic.normal ?_
        go_wp2
        go_ret
        have FW : Fr (fun j => A j ∨ j = r) w w6 := (HF3.out.trans (Fr.below HB4.out) (fun j e => .inl e)).trans HF6.out (fun j e => .inl e)
        rcases HRS.out with ⟨rfl, k, v', h1, h3, h4⟩ | ⟨rfl, h1⟩
        · refine ⟨.inl ⟨⟨true, M, R.cs ++ k⟩, v', HSG.out _ ?_, rfl, h3, h4.mono (fun j _ hj => ?_)⟩, FW⟩
          · unfold seg2
            simp only []
            rw [if_pos HBF.out, h1, ← HMM.out]
            rfl
          · rcases hj with q | q
            · exact .inl q
            · exact .inr ⟨by have := q.1; omega, q.2⟩
        · refine ⟨.inr ⟨HSG.out _ ?_, rfl⟩, FW⟩
          unfold seg2
          simp only []
          rw [if_pos HBF.out, h1]
          rfl
      · have HBF := hid8 hbf
        have hdec : decide (b = fstB n) = false := by simpa using hbf
        clear hbf
        refine wp_region_noPanic ?_
        refine wp_region_held_drew (S := (fun u : World => u.cell? ⟨gb, 0, none⟩ = some (.slice a0 l0 c0))) (by kernel_rfl) (q3) (fun hHeld => ?_)
        refine wpAnyH_take (i := 0) (oi := { dst := some 70, op := _, type := _, pos := _, after := _, guard := _ }) (v := ?_) rfl (by kernel_rfl) (by kernel_rfl) (by kernel_rfl) (fun _ _ _ h => h) (Or.inl ⟨by rfl, ?_⟩) (by assumption) ?_
        rotate_left 1
        · intro u hSw; obtain s1 := hSw; go_simp; try with_reducible rfl
        try simp only [Act.put, List.setIfInBounds_toArray, List.set_cons_zero, List.set_cons_succ]
        refine wpAnyH_take (i := 1) (oi := { dst := some 71, op := _, type := _, pos := _, after := _, guard := _ }) (v := ?_) rfl (by kernel_rfl) (by kernel_rfl) (by kernel_rfl) (fun _ _ _ h => h) (Or.inl ⟨by rfl, ?_⟩) (by assumption) ?_
        rotate_left 1
        · intro u hSw; obtain s1 := hSw; go_simp; try with_reducible rfl
        try simp only [Act.put, List.setIfInBounds_toArray, List.set_cons_zero, List.set_cons_succ]
        refine wpAnyH_take (i := 2) (oi := { dst := some 72, op := _, type := _, pos := _, after := _, guard := _ }) (v := ?_) rfl (by kernel_rfl) (by kernel_rfl) (by kernel_rfl) (fun _ _ _ h => h) (Or.inl ⟨by rfl, ?_⟩) (by assumption) ?_
        rotate_left 1
        · intro u hSw; obtain s1 := hSw; go_simp; try with_reducible rfl
        try simp only [Act.put, List.setIfInBounds_toArray, List.set_cons_zero, List.set_cons_succ]
        refine wpAnyH_take (i := 3) (oi := { dst := some 73, op := _, type := _, pos := _, after := _, guard := _ }) (v := ?_) rfl (by kernel_rfl) (by kernel_rfl) (by kernel_rfl) (fun _ _ _ h => h) (Or.inl ⟨by rfl, ?_⟩) (by assumption) ?_
        rotate_left 1
        · intro u hSw; obtain s1 := hSw; go_simp; try with_reducible rfl
        try simp only [Act.put, List.setIfInBounds_toArray, List.set_cons_zero, List.set_cons_succ]
        refine wpAnyH_ready (rs := [4]) (by kernel_rfl) (by simp) ?_
        refine AllReadyH.cons (o := { dst := some 74, op := _, type := _, pos := _, after := _, guard := _ }) rfl (fun K hK => ?_) AllReadyH.nil
        go_simp
        refine (firstBody_any n hn0 hn1 w3.drew).mono ?_
        rintro e w4 ⟨v4, rfl, ho4, hb4⟩
        obtain ⟨a4, c4, rfl, sl4, lo4⟩ := ho4.sl (fstB_byt n hn0)
        have hz4 : w3.heap.size ≤ w4.heap.size := hb4.size
        have HB4 := hid8 (bd.trans (hb4.mono hz34))
        have HS4 := hid8 sl4
        generalize (fstB n).length = n4 at HS4 ⊢
        clear hb4 ho4 sl4 lo4
        go_wp2_with fail
        refine hK.out _ _ ((HB4.out.cell (p := ⟨gb, 0, none⟩) (by show gb < w3.heap.size; omega)).trans q3) (fun hHeld => ?_)
        clear hK K
        try simp only [Act.put, List.setIfInBounds_toArray, List.set_cons_zero, List.set_cons_succ]
        refine wpAnyH_ready (rs := [5]) (by kernel_rfl) (by simp) ?_
        refine AllReadyH.cons (o := { dst := some 75, op := _, type := _, pos := _, after := _, guard := _ }) rfl (fun K hK => ?_) AllReadyH.nil
        go_simp
        refine (bEqual_any (SL3.out.below HB4.out) HS4.out).mono ?_
        rintro e w5 ⟨rfl, rfl⟩
        rw [hdec]
        go_wp2_with fail
        refine hK.out _ _ ((HB4.out.cell (p := ⟨gb, 0, none⟩) (by show gb < w3.heap.size; omega)).trans q3) (fun hHeld => ?_)
        clear hK K
        try simp only [Act.put, List.setIfInBounds_toArray, List.set_cons_zero, List.set_cons_succ]
        refine wpAnyH_take (i := 6) (oi := { dst := some 76, op := _, type := _, pos := _, after := _, guard := _ }) (v := ?_) rfl (by kernel_rfl) (by kernel_rfl) (by kernel_rfl) (fun _ _ _ h => h) (Or.inl ⟨by rfl, ?_⟩) (by assumption) ?_
        rotate_left 1
        · intro u hSw; obtain s1 := hSw; go_simp; try with_reducible rfl
        try simp only [Act.put, List.setIfInBounds_toArray, List.set_cons_zero, List.set_cons_succ]
        refine wpAnyH_take (i := 7) (oi := { dst := some 77, op := _, type := _, pos := _, after := _, guard := _ }) (v := undef) rfl (by kernel_rfl) (by kernel_rfl) (by kernel_rfl) (fun _ _ _ h => h) (Or.inr ⟨by rfl, by rfl⟩) (by assumption) ?_
        try simp only [Act.put, List.setIfInBounds_toArray, List.set_cons_zero, List.set_cons_succ]
        refine wpAnyH_take (i := 8) (oi := { dst := some 78, op := _, type := _, pos := _, after := _, guard := _ }) (v := undef) rfl (by kernel_rfl) (by kernel_rfl) (by kernel_rfl) (fun _ _ _ h => h) (Or.inr ⟨by rfl, by rfl⟩) (by assumption) ?_
        try simp only [Act.put, List.setIfInBounds_toArray, List.set_cons_zero, List.set_cons_succ]
        refine wpAnyH_take (i := 9) (oi := { dst := some 79, op := _, type := _, pos := _, after := _, guard := _ }) (v := undef) rfl (by kernel_rfl) (by kernel_rfl) (by kernel_rfl) (fun _ _ _ h => h) (Or.inr ⟨by rfl, by rfl⟩) (by assumption) ?_
        try simp only [Act.put, List.setIfInBounds_toArray, List.set_cons_zero, List.set_cons_succ]
        refine wpAnyH_take (i := 10) (oi := { dst := some 80, op := _, type := _, pos := _, after := _, guard := _ }) (v := undef) rfl (by kernel_rfl) (by kernel_rfl) (by kernel_rfl) (fun _ _ _ h => h) (Or.inr ⟨by rfl, by rfl⟩) (by assumption) ?_
        try simp only [Act.put, List.setIfInBounds_toArray, List.set_cons_zero, List.set_cons_succ]
        refine wpAnyH_take (i := 11) (oi := { dst := some 81, op := _, type := _, pos := _, after := _, guard := _ }) (v := ?_) rfl (by kernel_rfl) (by kernel_rfl) (by kernel_rfl) (fun _ _ _ h => h) (Or.inl ⟨by rfl, ?_⟩) (by assumption) ?_
        rotate_left 1
        · intro u hSw; obtain s1 := hSw; go_simp; try with_reducible rfl
        try simp only [Act.put, List.setIfInBounds_toArray, List.set_cons_zero, List.set_cons_succ]
        refine wpAnyH_take (i := 12) (oi := { dst := some 6, op := _, type := _, pos := _, after := _, guard := _ }) (v := ?_) rfl (by kernel_rfl) (by kernel_rfl) (by kernel_rfl) (fun _ _ _ h => h) (Or.inl ⟨by rfl, ?_⟩) (by assumption) ?_
        rotate_left 1
        · intro u hSw; obtain s1 := hSw; go_simp; try with_reducible rfl
        try simp only [Act.put, List.setIfInBounds_toArray, List.set_cons_zero, List.set_cons_succ]
        refine wpAnyH_done (by kernel_rfl) ?_ _
        refine NoPanic.normal ?_
        go_wp2
        go_ret
        refine ⟨.inr ⟨HSG.out _ ?_, rfl⟩, HF3.out.trans (Fr.below HB4.out) (fun j e => .inl e)⟩
        unfold seg2
        simp only []
        rw [if_neg HBF.out]

set_option maxRecDepth 100000 in
set_option maxHeartbeats 4000000 in
theorem rread_other (hsl : Sl w ao len cap xs) (hlen : len ≤ 262144) (hm : Rm w r v R) (hnx : R.next < 18446744073709551616) (n : Int) {seq : Nat} {body : List Int} (ht : takA xs 0 = some (seq, body)) (hbg : R.begun = true) (hsq : seq ≠ R.next) :
    Calls Tryz.prog 77 #[.pointer (some ⟨r, 0, none⟩), .slice ao len cap, .int .i64 n] w fun e w' => RdL w w' r R A xs n e := by
  have HTK := hid8 (ftake_any ao len cap xs 0 w hsl (by omega))
  have HSG : Hid (SegR xs n R none) := hid8 (.inl ⟨(seq, body), ht, by show seq ≠ R.nx xs; unfold Rdr.nx; rw [if_pos hbg]; exact hsq, rfl⟩)
  have HM := hid8 hm
  have HT := hid8 ht
  clear hsl hm ht
  go_enter Tryz.func77, Tryz.ntmps77
  go_wp2_with fail
  refine HTK.out.mono ?_
  rintro e w1 ⟨hres, hb1⟩
  rcases hres with ⟨seq', body', v1, g, hk, rfl, hbd⟩ | ⟨hk, -⟩
  rotate_left
  · rw [HT.out] at hk
    cases hk
  rw [HT.out] at hk
  simp only [Option.some.injEq, Prod.mk.injEq] at hk
  obtain ⟨rfl, rfl⟩ := hk
  obtain ⟨-, -, a1, c1, rfl, -, -⟩ := hbd
  have M1 := HM.out.below hb1
  obtain ⟨y1, y2, y3⟩ := M1.cells
  have hr0 := M1.lt
  rw [hbg] at y1
  have HF1 : Hid (Fr (fun j => A j ∨ j = r) w w1) := hid8 (Fr.below hb1)
  have hne1 : ((seq : Int) == (R.next : Int)) = false := by simp; omega
  have hne2 : ((seq : Int) != (R.next : Int)) = true := by simp; omega
  have hne3 : (seq == R.next) = false := by simpa using hsq
  have hne4 : (seq != R.next) = true := by simpa using hsq
  have hne5 : ¬ (seq : Int) = (R.next : Int) := by omega
  clear M1 HTK hb1 HM HT
  go_wp2
  go_ret
  exact ⟨.inr ⟨HSG.out, rfl⟩, HF1.out⟩
theorem takA_seq {xs : List Int} (hb : Byt xs) {z : Int} {seq : Nat} {body : List Int} (h : takA xs z = some (seq, body)) : seq < 18446744073709551616 := by
  unfold takA at h
  split at h
  · unfold tak at h
    split at h
    · simp only [Option.some.injEq, Prod.mk.injEq] at h
      rw [← h.1]
      exact seqOf_lt (hb.drop _)
    · cases h
  · cases h
theorem rread_any (hsl : Sl w ao len cap xs) (hlen : len ≤ 262144) (hm : Rm w r v R) (hnx : R.next < 18446744073709551616) (hc : CRow w A v R.cs) (hcs : R.cs.length ≤ 100000000) (hr : ¬ A r) (hA : ∀ j, A j → j < w.heap.size) (n : Int) (hn0 : 0 ≤ n) (hn1 : n ≤ 9223372036854775807) (hxr : 0 < len → ∀ b off, ao = some ⟨b, off, none⟩ → ¬ b = r) :
    Calls Tryz.prog 77 #[.pointer (some ⟨r, 0, none⟩), .slice ao len cap, .int .i64 n] w fun e w' => RdL w w' r R A xs n e := by
  cases ht : takA xs 0 with
  | none => exact rread_none hsl hlen hm hnx hc hcs hr hA n hn0 hn1 ht
  | some q =>
    obtain ⟨seq, body⟩ := q
    have hs2 : seq < 18446744073709551616 := takA_seq hsl.2.2.2.1 ht
    cases hbg : R.begun with
    | false => exact rread_first hsl hlen hm hnx hc hcs hr hA n hn0 hn1 ht hs2 hbg hxr
    | true =>
      by_cases hsq : seq = R.next
      · exact rread_same hsl hlen hm hnx hc hcs hr hA n hn0 hn1 ht hs2 hbg hsq
      · exact rread_other hsl hlen hm hnx n ht hbg hsq
end
end Go.Proofs.YthfcjfhaoabdeaaGreatDoor
