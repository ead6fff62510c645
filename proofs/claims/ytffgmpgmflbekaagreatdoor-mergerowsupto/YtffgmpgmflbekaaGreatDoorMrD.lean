/-
  MrD: The document's example.
-/
import Derived.Test.YtffgmpgmflbekaaGreatDoorMrB
import Derived.Test.YtffgmpgmflbekaaGreatDoorXE10
set_option linter.unusedVariables false
set_option linter.unusedSimpArgs false
namespace Go.Proofs.YtffgmpgmflbekaaGreatDoor
open Go.RowKit Go.Shelf
attribute [local go_sem] Oper.semAt_some

section
set_option maxHeartbeats 8000000
set_option maxRecDepth 100000
theorem right1 : EL.rightM ⟨0, 1, []⟩ = true := by decide
theorem isRight1 (w : World) : Calls Tryz.prog 65 #[.agg #[.int .i64 0, .int .i64 1, .slice none 0 0]] w fun e w' => e = .returned (.bool true) ∧ Below w.heap.size w w' := by
  have HA := hide2 (below1 w (.cells #[.int .i64 0, .int .i64 1, .slice none 0 0] 34))
  have HP := hide2 (EL.PutManifest_any (w := w.alloc (.cells #[.int .i64 0, .int .i64 1, .slice none 0 0] 34)) (ao := none) (len := 0) (cap := 0) (ps := []) 0 1 ⟨rfl, Nat.le_refl _, Nat.zero_le _, fun h => absurd h (by omega)⟩)
  go_enter Tryz.func65, Tryz.ntmps65
  go_wp2_with fail
  refine HP.out.mono ?_
  rintro e w1 ⟨v, rfl, _, hb⟩
  rw [right1]
  have HB := hide2 (HA.out.trans (hb.mono HA.out.size))
  clear hb HP
  unfold EL.er
  go_wp2
  go_ret
  exact ⟨rfl, HB.out⟩
theorem begin1 (w : World) (p : Addr) : Calls Tryz.prog 27 #[.pointer (some p), .agg #[.int .i64 0, .int .i64 1, .slice none 0 0], .int .i64 0] w fun e w' => e = .returned (.tuple #[.pointer none, .int .i64 140]) ∧ Below w.heap.size w w' := by
  have HA := hide2 (below1 w (.cells #[.int .i64 0, .int .i64 1, .slice none 0 0] 34))
  have HP := hide2 (isRight1 (w.alloc (.cells #[.int .i64 0, .int .i64 1, .slice none 0 0] 34)))
  go_enter Tryz.func27, Tryz.ntmps27
  go_wp2_with fail
  refine HP.out.mono ?_
  rintro e w1 ⟨rfl, hb⟩
  have K0 : Hid (w1.cell? ⟨w.heap.size, 0, none⟩ = some (.int .i64 0) ∧ w1.cell? ⟨w.heap.size, 1, none⟩ = some (.int .i64 1) ∧ w1.cell? ⟨w.heap.size, 2, none⟩ = some (.slice none 0 0)) := hide2 (by
    rw [hb.cell (p := ⟨w.heap.size, 0, none⟩) (by simp), hb.cell (p := ⟨w.heap.size, 1, none⟩) (by simp), hb.cell (p := ⟨w.heap.size, 2, none⟩) (by simp)]
    refine ⟨?_, ?_, ?_⟩ <;> simp [go_sem])
  obtain ⟨c0, c1, c2⟩ := K0.out
  have HB := hide2 (HA.out.trans (hb.mono HA.out.size))
  clear hb HP K0
  go_wp2
  go_ret2
  exact ⟨rfl, HB.out⟩
theorem begin0 (w : World) : Calls Tryz.prog 27 #[.pointer none, .agg #[.int .i64 0, .int .i64 1, .slice none 0 0], .int .i64 0] w fun e w' => e = .returned (.tuple #[.pointer none, .int .i64 1]) ∧ Below w.heap.size w w' := by
  go_enter Tryz.func27, Tryz.ntmps27
  go_wp2
  go_ret2
  exact ⟨rfl, below1 _ _⟩
theorem step0 (w : World) : Calls Tryz.prog 31 #[.pointer none] w fun e w' => e = .returned (.tuple #[.bool false, .int .i64 1]) ∧ w' = w := by
  go_enter Tryz.func31, Tryz.ntmps31
  go_wp2
  go_ret2
  exact ⟨rfl, rfl⟩
theorem man0 (w : World) : Calls Tryz.prog 29 #[.pointer none] w fun e w' => e = .returned (.agg #[.int .i64 0, .int .i64 0, .slice none 0 0]) ∧ Below w.heap.size w w' := by
  go_enter Tryz.func29, Tryz.ntmps29
  go_wp2
  refine bodyPost_ret (v := .agg #[.int .i64 0, .int .i64 0, .slice none 0 0]) (by simp [results, Tryz.results29, go_sem]) rfl ?_
  exact ⟨rfl, below1 _ _⟩
theorem new1 (w : World) : Calls Tryz.prog 12 #[] w fun e w' => ∃ p, e = .returned (.pointer (some p)) ∧ Below w.heap.size w w' := by
  go_enter Tryz.func12, Tryz.ntmps12
  go_wp2
  go_ret
  exact ⟨_, rfl, below1 _ _⟩
def exA : List Ro := [⟨⟨#[97]⟩, ⟨#[120]⟩, 1⟩, ⟨⟨#[98]⟩, ⟨#[121]⟩, 2⟩]
def exB : List Ro := [⟨⟨#[98]⟩, ⟨#[122]⟩, 5⟩]
def exG : List Gn := [⟨⟨#[97]⟩, 1⟩]
theorem ex_rows : rowsD exA exB exG = exB := by decide
theorem exA_rr (w : World) : Rr (w.alloc (.cells #[.string ⟨#[97]⟩, .string ⟨#[120]⟩, .int .i64 1, .string ⟨#[98]⟩, .string ⟨#[121]⟩, .int .i64 2] 28)) w.heap.size (.slice (some ⟨w.heap.size, 0, none⟩) 2 2) exA :=
  ⟨rfl, .inr ⟨w.heap.size, 2, _, rfl, Nat.le_refl _, heap_alloc_new _ _, Nat.le_refl _, by decide, rfl, rfl⟩⟩
theorem exB_rr (w : World) : Rr (w.alloc (.cells #[.string ⟨#[98]⟩, .string ⟨#[122]⟩, .int .i64 5] 28)) w.heap.size (.slice (some ⟨w.heap.size, 0, none⟩) 1 1) exB :=
  ⟨rfl, .inr ⟨w.heap.size, 1, _, rfl, Nat.le_refl _, heap_alloc_new _ _, Nat.le_refl _, by decide, rfl, rfl⟩⟩
theorem exG_gr (w : World) : Gr (w.alloc (.cells #[.string ⟨#[97]⟩, .int .i64 1] 30)) w.heap.size (.slice (some ⟨w.heap.size, 0, none⟩) 1 1) exG :=
  ⟨rfl, .inr ⟨w.heap.size, 1, _, rfl, Nat.le_refl _, heap_alloc_new _ _, Nat.le_refl _, by decide, rfl, rfl⟩⟩
theorem rr_rs {w : World} {B : Nat} {ao : Option Addr} {n c : Nat} {l : List Ro} (h : Rr w B (.slice ao n c) l) : RS w ao n c l := by
  obtain ⟨a, k, e, hs⟩ := Rr.seq h
  injection e with e1 e2 e3
  subst e1 e2 e3
  exact hs
theorem gr_gs {w : World} {B : Nat} {ao : Option Addr} {n c : Nat} {l : List Gn} (h : Gr w B (.slice ao n c) l) : GS w ao n c l := by
  obtain ⟨a, k, e, hs⟩ := Gr.seq h
  injection e with e1 e2 e3
  subst e1 e2 e3
  exact hs
theorem oA : ∀ r ∈ exA, r.ok := fun r hr => by
  simp only [exA, List.mem_cons, List.not_mem_nil, or_false] at hr
  rcases hr with rfl | rfl <;> exact ⟨by decide, by decide, by decide, by decide⟩
theorem oB : ∀ r ∈ exB, r.ok := fun r hr => by
  simp only [exB, List.mem_cons, List.not_mem_nil, or_false] at hr
  subst hr
  exact ⟨by decide, by decide, by decide, by decide⟩
theorem oG : ∀ r ∈ exG, r.ok := fun r hr => by
  simp only [exG, List.mem_cons, List.not_mem_nil, or_false] at hr
  subst hr
  exact ⟨by decide, by decide, by decide⟩
theorem shown_any (w : World) : Calls Tryz.prog 8 #[] w fun e w' => e = .returned (.bool true) ∧ Below w.heap.size w w' := by
  obtain ⟨w1, e1⟩ : ∃ y, y = w.alloc (.cells #[.string ⟨#[97]⟩, .string ⟨#[120]⟩, .int .i64 1, .string ⟨#[98]⟩, .string ⟨#[121]⟩, .int .i64 2] 28) := ⟨_, rfl⟩
  obtain ⟨w2, e2⟩ : ∃ y, y = w1.alloc (.cells #[.string ⟨#[98]⟩, .string ⟨#[122]⟩, .int .i64 5] 28) := ⟨_, rfl⟩
  obtain ⟨w3, e3⟩ : ∃ y, y = w2.alloc (.cells #[.string ⟨#[97]⟩, .int .i64 1] 30) := ⟨_, rfl⟩
  have s1 : w1.heap.size = w.heap.size + 1 := by rw [e1]; simp
  have s2 : w2.heap.size = w.heap.size + 1 + 1 := by rw [e2]; simp [s1]
  have b1 : Below w.heap.size w w1 := by rw [e1]; exact below1 _ _
  have b2 : Below w1.heap.size w1 w2 := by rw [e2]; exact below1 _ _
  have b3 : Below w2.heap.size w2 w3 := by rw [e3]; exact below1 _ _
  have ra : RS w1 (some ⟨w.heap.size, 0, none⟩) 2 2 exA := by rw [e1]; exact rr_rs (exA_rr w)
  have rb : RS w2 (some ⟨w1.heap.size, 0, none⟩) 1 1 exB := by rw [e2]; exact rr_rs (exB_rr w1)
  have rg : GS w3 (some ⟨w2.heap.size, 0, none⟩) 1 1 exG := by rw [e3]; exact gr_gs (exG_gr w2)
  have b13 := b2.trans (b3.mono b2.size)
  have B3 := hide2 (b1.trans (b13.mono b1.size))
  have HR := hide2 (rowsP_any (ra.keep b13) (rb.keep b3) rg (fun h => by cases h) (by omega) (by omega) (by omega) oA oB oG)
  rw [s1, s2] at HR
  have E3 := hide2 (show w3 = ((w.alloc (.cells #[.string ⟨#[97]⟩, .string ⟨#[120]⟩, .int .i64 1, .string ⟨#[98]⟩, .string ⟨#[121]⟩, .int .i64 2] 28)).alloc (.cells #[.string ⟨#[98]⟩, .string ⟨#[122]⟩, .int .i64 5] 28)).alloc (.cells #[.string ⟨#[97]⟩, .int .i64 1] 30) by rw [e3, e2, e1])
  clear ra rb rg b1 b2 b3 b13 s1 s2 e3 e2 e1
  go_enter Tryz.func8, Tryz.ntmps8
  go_wp2_with fail
  rw [← E3.out]
  refine HR.out.mono ?_
  rintro e w4 ⟨v, rfl, hw4, hb4⟩
  rw [ex_rows] at hw4
  obtain ⟨al, cl, rfl, hrl, -⟩ := hw4
  obtain ⟨gl, ol, rfl, hgl, hcl⟩ := RS.at hrl (by decide)
  obtain ⟨c0, c1, c2⟩ := hcl 0 _ rfl
  have B4 := hide2 (B3.out.trans (hb4.mono B3.out.size))
  clear hb4 B3 HR hcl
  have L1 : exB.length = 1 := rfl
  have hle := hrl.2.1
  rw [L1] at hle ⊢
  clear hrl
  go_frame
  have HN := hide2 (new1 w4)
  go_wp2_with fail
  refine HN.out.mono ?_
  rintro e w5 ⟨p, rfl, hb5⟩
  have K5 : Hid (w5.cell? ⟨gl, ol + 0 * 3 + 1, none⟩ = some (.string ⟨#[122]⟩)) := hide2 (by rw [hb5.cell (p := ⟨gl, ol + 0 * 3 + 1, none⟩) hgl]; exact c1)
  have B5 := hide2 (B4.out.trans (hb5.mono B4.out.size))
  have G5 : gl < w5.heap.size := Nat.lt_of_lt_of_le hgl hb5.size
  clear hb5 B4 HN c0 c1 c2 hgl
  have HN := hide2 (begin1 w5 p)
  go_wp2_with fail
  refine HN.out.mono ?_
  rintro e w6 ⟨rfl, hb6⟩
  have K6 : Hid (w6.cell? ⟨gl, ol + 0 * 3 + 1, none⟩ = some (.string ⟨#[122]⟩)) := hide2 (by rw [hb6.cell (p := ⟨gl, ol + 0 * 3 + 1, none⟩) G5]; exact K5.out)
  have B6 := hide2 (B5.out.trans (hb6.mono B5.out.size))
  have G6 : gl < w6.heap.size := Nat.lt_of_lt_of_le G5 hb6.size
  clear hb6 B5 HN K5 G5
  have HN := hide2 (step0 w6)
  go_wp2_with fail
  refine HN.out.mono ?_
  rintro e w7 ⟨rfl, rfl⟩
  clear HN
  have HN := hide2 (man0 w7)
  go_wp2_with fail
  refine HN.out.mono ?_
  rintro e w8 ⟨rfl, hb8⟩
  have K8 : Hid (w8.cell? ⟨gl, ol + 0 * 3 + 1, none⟩ = some (.string ⟨#[122]⟩)) := hide2 (by rw [hb8.cell (p := ⟨gl, ol + 0 * 3 + 1, none⟩) G6]; exact K6.out)
  have B8 := hide2 (B6.out.trans (hb8.mono B6.out.size))
  have G8 : gl < w8.heap.size := Nat.lt_of_lt_of_le G6 hb8.size
  clear hb8 B6 HN K6 G6
  have ZA : Hid (∃ W8, W8 = w8.alloc (.cells #[.int .i64 0, .int .i64 0, .slice none 0 0] 34)) := hide2 ⟨_, rfl⟩
  obtain ⟨W8, hW8⟩ := ZA.out
  have E8 := hide2 hW8
  have b8 : Below w8.heap.size w8 W8 := by rw [hW8]; exact below1 _ _
  have z8 : W8.heap.size = w8.heap.size + 1 := by rw [hW8]; simp
  have HN := hide2 (begin0 W8)
  have M1 : W8.cell? ⟨w8.heap.size, 1, none⟩ = some (.int .i64 0) := by rw [hW8]; simp [go_sem]
  have HM1 := hide2 M1
  have K88 : Hid (W8.cell? ⟨gl, ol + 0 * 3 + 1, none⟩ = some (.string ⟨#[122]⟩)) := hide2 (by rw [b8.cell (p := ⟨gl, ol + 0 * 3 + 1, none⟩) G8]; exact K8.out)
  have B88 := hide2 (B8.out.trans (b8.mono B8.out.size))
  have G88 : gl < W8.heap.size := by omega
  clear hW8 ZA b8 B8 K8 M1
  go_wp2_with fail
  rw [← E8.out]
  refine HN.out.mono ?_
  rintro e w9 ⟨rfl, hb9⟩
  have K9 : w9.cell? ⟨gl, ol + 0 * 3 + 1, none⟩ = some (.string ⟨#[122]⟩) := by rw [hb9.cell (p := ⟨gl, ol + 0 * 3 + 1, none⟩) G88]; exact K88.out
  have M9 : w9.cell? ⟨w8.heap.size, 1, none⟩ = some (.int .i64 0) := by rw [hb9.cell (p := ⟨w8.heap.size, 1, none⟩) (by show w8.heap.size < W8.heap.size; omega)]; exact HM1.out
  have B9 := hide2 (B88.out.trans (hb9.mono B88.out.size))
  clear hb9 B88 HN K88 G88 HM1 E8 z8
  go_wp2
  go_ret
  exact ⟨rfl, B9.out⟩
end
end Go.Proofs.YtffgmpgmflbekaaGreatDoor
