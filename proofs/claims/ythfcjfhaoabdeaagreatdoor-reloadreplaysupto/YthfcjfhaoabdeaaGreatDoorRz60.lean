/-
  Rn2: The steps of Open, of a new disk.
-/
import Derived.Test.YthfcjfhaoabdeaaGreatDoorRz57
import Derived.Test.YthfcjfhaoabdeaaGreatDoorRz26
import Derived.Test.YthfcjfhaoabdeaaGreatDoorRz59
import Derived.Deep.RegionWith
set_option linter.unusedVariables false
set_option linter.unusedSimpArgs false
namespace Go.Proofs.YthfcjfhaoabdeaaGreatDoor
open Go.RowKit Go.Maps
attribute [local go_sem] Oper.semAt_some

/-- A disk that is being opened: its ten cells. -/
def Oc (w : World) (o : Nat) (d : Value) (lg : Int) (rows log com : Value) : Prop :=
  w.heap[o]? = some (.cells #[d, .int .i64 0, .int .i64 lg, .slice none 0 0, rows, .slice none 0 0, .slice none 0 0, .int .i64 0, log, com] 72 (0, 0))
theorem Oc.lt {w : World} {o : Nat} {d rows log com : Value} {lg : Int} (h : Oc w o d lg rows log com) : o < w.heap.size := (Array.getElem?_eq_some_iff.1 h).1
theorem Oc.cell {w : World} {o : Nat} {d rows log com : Value} {lg : Int} (h : Oc w o d lg rows log com) (i : Nat) : w.cell? ⟨o, i, none⟩ = (#[d, .int .i64 0, .int .i64 lg, .slice none 0 0, rows, .slice none 0 0, .slice none 0 0, .int .i64 0, log, com] : Array Value)[i]? := Go.Joins.cell_of_block h i
theorem Oc.fz {w : World} {o : Nat} {d rows log com : Value} {lg : Int} (h : Oc w o d lg rows log com) (i : Nat) : w.frozen? ⟨o, i, none⟩ = false := Go.Joins.unfrozen_of_block h i
theorem Oc.below {w w' : World} {o : Nat} {d rows log com : Value} {lg : Int} (h : Oc w o d lg rows log com) (hb : Below w.heap.size w w') : Oc w' o d lg rows log com := (hb.block o h.lt).trans h
section
set_option maxHeartbeats 8000000
set_option maxRecDepth 100000
variable {w : World} {A : Nat → Prop} {d o : Nat}
theorem oload_new (hD : DV w A d sA) (hO : Oc w o (.pointer (some ⟨d, 0, none⟩)) 0 (.slice none 0 0) (.pointer none) (.slice none 0 0)) :
    Calls Tryz.prog 29 #[.pointer (some ⟨o, 0, none⟩)] w fun e w' => e = .returned .nilIface ∧ Oc w' o (.pointer (some ⟨d, 0, none⟩)) 1 (.slice none 0 0) (.pointer none) (.slice none 0 0) ∧ Fr (fun j => j = o) w w' := by
  have c0 : w.cell? ⟨o, 0, none⟩ = some (.pointer (some ⟨d, 0, none⟩)) := hO.cell 0
  have HL := ehide3 (load_new hD)
  have HF := ehide3 (fun w => faultOf_ok 121 w)
  have HO := ehide3 hO
  have hol := hO.lt
  clear hD hO
  go_enter Tryz.func29, Tryz.ntmps29
  go_wp2_with fail
  refine HL.out.mono ?_
  rintro e w1 ⟨rfl, hb1⟩
  have hs1 := hb1.size
  obtain ⟨W2, hW2⟩ : ∃ W2, W2 = w1.alloc (.cells #[.int .i64 0, .int .i64 1, .slice none 0 0] 40) := ⟨_, rfl⟩
  have hb2 : Below w1.heap.size w1 W2 := by rw [hW2]; exact ML.below1 _ _
  have hO2 := (HO.out.below hb1).below hb2
  have m1 : W2.cell? ⟨o, 1, none⟩ = some (.int .i64 0) := hO2.cell 1
  have m2 : W2.cell? ⟨o, 2, none⟩ = some (.int .i64 0) := hO2.cell 2
  have m3 : W2.cell? ⟨o, 3, none⟩ = some (.slice none 0 0) := hO2.cell 3
  have m5 : W2.cell? ⟨o, 5, none⟩ = some (.slice none 0 0) := hO2.cell 5
  have f1 := hO2.fz 1
  have f2 := hO2.fz 2
  have f3 := hO2.fz 3
  have f5 := hO2.fz 5
  have ZO : Hid (Oc ((((W2.setCell ⟨o, 1, none⟩ (.int .i64 0)).setCell ⟨o, 2, none⟩ (.int .i64 1)).setCell ⟨o, 3, none⟩ (.slice none 0 0)).setCell ⟨o, 5, none⟩ (.slice none 0 0)) o (.pointer (some ⟨d, 0, none⟩)) 1 (.slice none 0 0) (.pointer none) (.slice none 0 0)) := ehide3 (blk_set (i := 5) (v := .slice none 0 0) (blk_set (i := 3) (v := .slice none 0 0) (blk_set (i := 2) (v := .int .i64 1) (blk_set (i := 1) (v := .int .i64 0) hO2))))
  have ZF : Hid (Fr (fun j => j = o) w ((((W2.setCell ⟨o, 1, none⟩ (.int .i64 0)).setCell ⟨o, 2, none⟩ (.int .i64 1)).setCell ⟨o, 3, none⟩ (.slice none 0 0)).setCell ⟨o, 5, none⟩ (.slice none 0 0))) := ehide3 (((((Fr.below (F := fun j => j = o) (hb1.trans (hb2.mono hs1))).setCell (p := ⟨o, 1, none⟩) (.inl rfl) _).setCell (p := ⟨o, 2, none⟩) (.inl rfl) _).setCell (p := ⟨o, 3, none⟩) (.inl rfl) _).setCell (p := ⟨o, 5, none⟩) (.inl rfl) _)
  clear hb1 hb2 HL HO hO2
  rw [hW2] at m1 m2 m3 m5 f1 f2 f3 f5
  go_wp2_with fail
  rw [← hW2]
  refine (HF.out _).mono ?_
  rintro e w5 ⟨rfl, rfl⟩
  clear m1 m2 m3 m5 f1 f2 f3 f5 c0 hW2
  go_wp2
  go_ret
  exact ⟨rfl, ZO.out, ZF.out⟩
theorem ofind_new (hD : DV w A d sA) (hO : Oc w o (.pointer (some ⟨d, 0, none⟩)) 1 (.slice none 0 0) (.pointer none) (.slice none 0 0)) :
    Calls Tryz.prog 30 #[.pointer (some ⟨o, 0, none⟩)] w fun e w' => e = .returned .nilIface ∧ Below w.heap.size w w' := by
  have c0 : w.cell? ⟨o, 0, none⟩ = some (.pointer (some ⟨d, 0, none⟩)) := hO.cell 0
  have HN := ehide3 (dv_names hD)
  rw [names_new] at HN
  have HC := ehide3 (fun ao cap s w => contains_none ao cap s w)
  clear hD hO
  go_enter Tryz.func30, Tryz.ntmps30
  go_wp2_with fail
  refine HN.out.mono ?_
  rintro e w1 ⟨ao, len, cap, rfl, hst, hb⟩
  obtain rfl : len = 0 := hst.1.symm
  clear HN hst
  go_wp2_with fail
  refine (HC.out _ _ _ _).mono ?_
  rintro e w2 ⟨rfl, rfl⟩
  go_wp2
  go_ret
  exact ⟨rfl, hb⟩
/-- What openLog has left. -/
def OpD (w w' : World) (A : Nat → Prop) (o d l : Nat) : Prop := ∃ ao cap, Oc w' o (.pointer (some ⟨d, 0, none⟩)) 1 (.slice none 0 0) (.pointer (some ⟨l, 0, none⟩)) (.slice ao 0 cap) ∧ KS w' ao 0 cap [] ∧ Fr (fun j => j = o ∨ A j) w w'
theorem oopen_new {B : Nat} (hD : DV w A d sA) (hAB : ∀ j, A j → B ≤ j) (hB : B ≤ w.heap.size) (hg : Gl B w) (hoA : ¬ A o) (hO : Oc w o (.pointer (some ⟨d, 0, none⟩)) 1 (.slice none 0 0) (.pointer none) (.slice none 0 0)) :
    Calls Tryz.prog 31 #[.pointer (some ⟨o, 0, none⟩)] w fun e w' => e = .returned .nilIface ∧ ∃ l, OpD w w' A o d l := by
  have c0 : w.cell? ⟨o, 0, none⟩ = some (.pointer (some ⟨d, 0, none⟩)) := hO.cell 0
  have c2 : w.cell? ⟨o, 2, none⟩ = some (.int .i64 1) := hO.cell 2
  have hol := hO.lt
  have HW : Hid (∀ u, (∃ q, u = w.drewN q) → Calls Tryz.prog 52 #[.pointer (some ⟨d, 0, none⟩), .int .i64 1] u fun e w' => ∃ l ao cap, e = .returned (.tuple #[.pointer (some ⟨l, 0, none⟩), .slice ao 0 cap, .int .i64 0]) ∧ KS w' ao 0 cap [] ∧ Hid (Fr A w w' ∧ Oc w' o (.pointer (some ⟨d, 0, none⟩)) 1 (.slice none 0 0) (.pointer none) (.slice none 0 0))) := ehide3 (fun u hu => by
    obtain ⟨q, rfl⟩ := hu
    have hfq : Fr A w (w.drewN q) := (Fr.refl A w).drewN q
    have hD2 : DV (w.drewN q) A d sA := hD.below (below_drewN (Below.refl _ _) q)
    refine (walOpen_any (w := w.drewN q) (B := B) hD2 hAB hB (hg.on (below_drewN (Below.refl _ _) q)) 1).mono ?_
    rintro e w2 ⟨er, x, S', hop, hf, hres⟩
    obtain ⟨rfl, rfl, rfl⟩ := openA hop
    rcases hres with ⟨h, -⟩ | ⟨L, cs, l, vc, A2, C, hx, rfl, hpm, hcr, -, -⟩
    · cases h
    simp only [Option.some.injEq, Prod.mk.injEq] at hx
    obtain ⟨rfl, rfl⟩ := hx
    obtain ⟨ps, h0, h1, h2, h3⟩ := hcr
    have hps : ps = [] := List.map_eq_nil_iff.1 h0
    subst hps
    obtain ⟨ao, cap, rfl, hks⟩ := Kr.seq (w := w2) (B := 0) (v := vc) (l := []) h1
    exact ⟨l, ao, cap, rfl, hks, ehide3 ⟨⟨hf.os, hf.tape, hf.output, hf.size, hf.block⟩, (hf.block o hol hoA).trans hO⟩⟩)
  have HF := ehide3 (fun w => faultOf_ok 81 w)
  clear hD hg hO
  go_enter Tryz.func31, Tryz.ntmps31
  go_wp2_with fail
  go_region_with (go_at_call 52; refine (HW.out _ (by first | exact ⟨_, rfl⟩ | exact ⟨0, rfl⟩)).mono ?_; rintro e w1 ⟨l, ao, cap, rfl, hks, HR⟩)
  all_goals
    have hO2 := HR.out.2
    have m8 : w1.cell? ⟨o, 8, none⟩ = some (.pointer none) := hO2.cell 8
    have m9 : w1.cell? ⟨o, 9, none⟩ = some (.slice none 0 0) := hO2.cell 9
    have f8 := hO2.fz 8
    have f9 := hO2.fz 9
    have ZZ : Hid (OpD w ((w1.setCell ⟨o, 8, none⟩ (.pointer (some ⟨l, 0, none⟩))).setCell ⟨o, 9, none⟩ (.slice ao 0 cap)) A o d l) := ehide3 ⟨ao, cap, blk_set (i := 9) (v := .slice ao 0 cap) (blk_set (i := 8) (v := .pointer (some ⟨l, 0, none⟩)) hO2), ⟨rfl, hks.2.1, hks.2.2.1, fun q => absurd q (Nat.lt_irrefl 0)⟩, ((HR.out.1.mono (G := fun j => j = o ∨ A j) (fun j _ h => .inr h)).setCell (p := ⟨o, 8, none⟩) (.inl (.inl rfl)) _).setCell (p := ⟨o, 9, none⟩) (.inl (.inl rfl)) _⟩
    clear hO2 HR hks
    go_wp2_with fail
    refine (HF.out _).mono ?_
    rintro e w5 ⟨rfl, rfl⟩
    clear m8 m9 f8 f9 c0 c2
    go_wp2
    go_ret
    exact ⟨rfl, l, ZZ.out⟩
end
end Go.Proofs.YthfcjfhaoabdeaaGreatDoor

/-
  Rn3: Open's last step of a new disk; all four, one behind the other.
-/
set_option linter.unusedVariables false
set_option linter.unusedSimpArgs false
namespace Go.Proofs.YthfcjfhaoabdeaaGreatDoor
open Go.RowKit Go.Maps
attribute [local go_sem] Oper.semAt_some

theorem rpl_none : rplD [] 0 [] = some ([], 0) := rfl
section
set_option maxHeartbeats 8000000
set_option maxRecDepth 100000
variable {w : World} {A : Nat → Prop} {d o : Nat}
theorem oreplay_new {dv log : Value} {ao : Option Addr} {cap : Nat} (hE : Ee w) (ho0 : 0 < o) (hO : Oc w o dv 1 (.slice none 0 0) log (.slice ao 0 cap)) (hks : KS w ao 0 cap []) :
    Calls Tryz.prog 32 #[.pointer (some ⟨o, 0, none⟩)] w fun e w' => e = .returned .nilIface ∧ ∃ ra rc, Oc w' o dv 1 (.slice ra 0 rc) log (.slice ao 0 cap) ∧ Fr (fun j => j = o) w w' := by
  have c1 : w.cell? ⟨o, 1, none⟩ = some (.int .i64 0) := hO.cell 1
  have c5 : w.cell? ⟨o, 5, none⟩ = some (.slice none 0 0) := hO.cell 5
  have c9 : w.cell? ⟨o, 9, none⟩ = some (.slice ao 0 cap) := hO.cell 9
  have hol := hO.lt
  have hI : ∀ u, Below w.heap.size w u → Ins u ao 0 cap [] := fun u hu => ⟨hks.keep hu, fun c hc => (by cases hc), fun c hc => (by cases hc), by omega, by simp [cnt]⟩
  have HW : Hid (∀ u, (∃ q, u = w.drewN q) → Calls Tryz.prog 5 #[.slice none 0 0, .int .i64 0, .slice ao 0 cap] u fun e w' => ∃ ra rc, e = .returned (.tuple #[.slice ra 0 rc, .int .i64 0, .int .i64 0]) ∧ Hid (Below w.heap.size w w')) := ehide3 (fun u hu => by
    obtain ⟨q, rfl⟩ := hu
    have hbq : Below w.heap.size w (w.drewN q) := below_drewN (Below.refl _ _) q
    refine (replay_any (w := w.drewN q) (L := []) (cs := []) (ao := none) (cap := 0) (len := 0) ⟨rfl, Nat.le_refl _, Nat.zero_le _, fun h => absurd h (Nat.lt_irrefl 0)⟩ (fun r hr => (by cases hr)) (by omega) (hI _ hbq) 0 hE).mono ?_
    rintro e w2 ⟨h1, h2⟩
    rw [rpl_none] at h1
    obtain ⟨v, rfl, ra, rc, rfl, _, _⟩ := h1
    exact ⟨ra, rc, rfl, ehide3 (hbq.trans h2)⟩)
  have HDU : Hid (∀ u, KS u ao 0 cap [] → Calls Tryz.prog 11 #[.int .i64 0, .slice ao 0 cap] u fun e w' => ∃ ra rc, e = .returned (.slice ra 0 rc) ∧ Hid (Below u.heap.size u w')) := ehide3 (fun u hu => by
    refine (dueAbove_any hu (by omega) 0).mono ?_
    rintro e w2 ⟨v, ys, rfl, hp, _, hk, hb⟩
    have hy : ys = [] := List.Perm.eq_nil hp
    subst hy
    obtain ⟨ra, rc, rfl, _, _⟩ := hk
    exact ⟨ra, rc, rfl, ehide3 hb⟩)
  have HF := ehide3 (fun w => faultOf_ok 165 w)
  have HO := ehide3 hO
  have HK := ehide3 hks
  clear hO hks hE hI
  go_enter Tryz.func32, Tryz.ntmps32
  go_wp2_with fail
  go_region_with (go_at_call 5; refine (HW.out _ (by first | exact ⟨_, rfl⟩ | exact ⟨0, rfl⟩)).mono ?_; rintro e w1 ⟨ra, rc, rfl, HB1⟩)
  all_goals
    have hO2 := HO.out.below HB1.out
    have m4 : w1.cell? ⟨o, 4, none⟩ = some (.slice none 0 0) := hO2.cell 4
    have m7 : w1.cell? ⟨o, 7, none⟩ = some (.int .i64 0) := hO2.cell 7
    have f4 := hO2.fz 4
    have f7 := hO2.fz 7
    obtain ⟨W2, hW2⟩ : ∃ W2, W2 = (w1.setCell ⟨o, 4, none⟩ (.slice ra 0 rc)).setCell ⟨o, 7, none⟩ (.int .i64 0) := ⟨_, rfl⟩
    have hO3 : Oc W2 o dv 1 (.slice ra 0 rc) log (.slice ao 0 cap) := by rw [hW2]; exact blk_set (i := 7) (v := .int .i64 0) (blk_set (i := 4) (v := .slice ra 0 rc) hO2)
    have hF3 : Fr (fun j => j = o) w W2 := by rw [hW2]; exact ((Fr.below (F := fun j => j = o) HB1.out).setCell (p := ⟨o, 4, none⟩) (.inl rfl) _).setCell (p := ⟨o, 7, none⟩) (.inl rfl) _
    have n9 : W2.cell? ⟨o, 9, none⟩ = some (.slice ao 0 cap) := hO3.cell 9
    have HD2 := ehide3 (HDU.out W2 ⟨rfl, HK.out.2.1, HK.out.2.2.1, fun q => absurd q (Nat.lt_irrefl 0)⟩)
    have HO3 := ehide3 hO3
    have HF3 := ehide3 hF3
    have n9' := n9
    rw [hW2] at n9' HD2
    clear hO2 hO3 hF3 HB1 c1 c5 c9
    go_wp2_with fail
    refine HD2.out.mono ?_
    rintro e w3 ⟨r3, k3, rfl, HB3⟩
    have HO4 : Hid (Oc w3 o dv 1 (.slice ra 0 rc) log (.slice ao 0 cap)) := ehide3 (by have := HB3.out; rw [← hW2] at this; exact HO3.out.below this)
    have HF4 : Hid (Fr (fun j => j = o) w w3) := ehide3 (by have := HB3.out; rw [← hW2] at this; exact HF3.out.trans (Fr.below (F := fun _ => False) this) (fun j h => h.elim))
    clear HD2 HB3 hW2 m4 m7 f4 f7 n9 n9' HO3 HF3
    go_wp2_with fail
    go_loopw [47] (fun i wr => i = .int .i64 0 ∧ wr = w3) (fun _ _ => 0)
    case atStart => exact ⟨rfl, rfl⟩
    case round =>
      obtain ⟨rfl, rfl⟩ := hrel
      go_wp2_with fail
      refine (HF.out _).mono ?_
      rintro e w5 ⟨rfl, rfl⟩
      go_wp2
      go_ret
      exact ⟨rfl, ra, rc, HO4.out, HF4.out⟩
theorem oload_nil (hO : Oc w o (.pointer none) 0 (.slice none 0 0) (.pointer none) (.slice none 0 0)) :
    Calls Tryz.prog 29 #[.pointer (some ⟨o, 0, none⟩)] w fun e w' => e = .returned (flt 1) ∧ Fr (fun j => j = o) w w' := by
  have c0 : w.cell? ⟨o, 0, none⟩ = some (.pointer none) := hO.cell 0
  have HL := ehide3 (load_nil w)
  have HF := ehide3 (fun w => faultOf_nil w)
  have HO := ehide3 hO
  have hol := hO.lt
  clear hO
  go_enter Tryz.func29, Tryz.ntmps29
  go_wp2_with fail
  refine HL.out.mono ?_
  rintro e w1 ⟨rfl, hb1⟩
  have hs1 := hb1.size
  obtain ⟨W2, hW2⟩ : ∃ W2, W2 = w1.alloc (.cells #[.int .i64 0, .int .i64 0, .slice none 0 0] 40) := ⟨_, rfl⟩
  have hb2 : Below w1.heap.size w1 W2 := by rw [hW2]; exact ML.below1 _ _
  have hO2 := (HO.out.below hb1).below hb2
  have m1 : W2.cell? ⟨o, 1, none⟩ = some (.int .i64 0) := hO2.cell 1
  have m2 : W2.cell? ⟨o, 2, none⟩ = some (.int .i64 0) := hO2.cell 2
  have m3 : W2.cell? ⟨o, 3, none⟩ = some (.slice none 0 0) := hO2.cell 3
  have m5 : W2.cell? ⟨o, 5, none⟩ = some (.slice none 0 0) := hO2.cell 5
  have f1 := hO2.fz 1
  have f2 := hO2.fz 2
  have f3 := hO2.fz 3
  have f5 := hO2.fz 5
  have ZF : Hid (Fr (fun j => j = o) w ((((W2.setCell ⟨o, 1, none⟩ (.int .i64 0)).setCell ⟨o, 2, none⟩ (.int .i64 0)).setCell ⟨o, 3, none⟩ (.slice none 0 0)).setCell ⟨o, 5, none⟩ (.slice none 0 0))) := ehide3 (((((Fr.below (F := fun j => j = o) (hb1.trans (hb2.mono hs1))).setCell (p := ⟨o, 1, none⟩) (.inl rfl) _).setCell (p := ⟨o, 2, none⟩) (.inl rfl) _).setCell (p := ⟨o, 3, none⟩) (.inl rfl) _).setCell (p := ⟨o, 5, none⟩) (.inl rfl) _)
  clear hb1 hb2 HL HO hO2
  rw [hW2] at m1 m2 m3 m5 f1 f2 f3 f5
  go_wp2_with fail
  rw [← hW2]
  refine (HF.out _).mono ?_
  rintro e w5 ⟨rfl, rfl⟩
  clear m1 m2 m3 m5 f1 f2 f3 f5 c0 hW2
  go_wp2
  go_ret
  exact ⟨rfl, ZF.out⟩

abbrev clo (f : Nat) (o : Nat) : Value := .func (.func f) #[.pointer (some ⟨o, 0, none⟩)] #[]
theorem firstOf4_all {g : Nat} (I : Nat → World → Prop)
    (hc : ∀ k u, I k u → u.cell? ⟨g, 0, none⟩ = some (clo 29 o) ∧ u.cell? ⟨g, 1, none⟩ = some (clo 30 o) ∧ u.cell? ⟨g, 2, none⟩ = some (clo 31 o) ∧ u.cell? ⟨g, 3, none⟩ = some (clo 32 o))
    (h0 : ∀ u, I 0 u → Calls Tryz.prog 29 #[.pointer (some ⟨o, 0, none⟩)] u fun e w' => e = .returned .nilIface ∧ I 1 w')
    (h1 : ∀ u, I 1 u → Calls Tryz.prog 30 #[.pointer (some ⟨o, 0, none⟩)] u fun e w' => e = .returned .nilIface ∧ I 2 w')
    (h2 : ∀ u, I 2 u → Calls Tryz.prog 31 #[.pointer (some ⟨o, 0, none⟩)] u fun e w' => e = .returned .nilIface ∧ I 3 w')
    (h3 : ∀ u, I 3 u → Calls Tryz.prog 32 #[.pointer (some ⟨o, 0, none⟩)] u fun e w' => e = .returned .nilIface ∧ I 4 w')
    (hI : I 0 w) :
    Calls Tryz.prog 12 #[.slice (some ⟨g, 0, none⟩) 4 4] w fun e w' => e = .returned .nilIface ∧ I 4 w' := by
  have HC := ehide3 hc
  have H0 := ehide3 h0
  have H1 := ehide3 h1
  have H2 := ehide3 h2
  have H3 := ehide3 h3
  have HI := ehide3 hI
  clear hc h0 h1 h2 h3 hI
  go_enter Tryz.func12, Tryz.ntmps12
  go_wp2_with fail
  go_loopw [8] (fun i wr => ∃ k : Nat, k ≤ 4 ∧ i = .int .i64 (k : Nat) ∧ Hid (I k wr)) (fun i _ => 4 - (intOf i).toNat)
  case atStart => exact ⟨0, by omega, rfl, HI⟩
  case round =>
    clear HI
    obtain ⟨k, hk, rfl, HK⟩ := hrel
    obtain ⟨e0, e1, e2, e3⟩ := HC.out k wr HK.out
    have hk4 : k = 0 ∨ k = 1 ∨ k = 2 ∨ k = 3 ∨ k = 4 := by omega
    rcases hk4 with rfl | rfl | rfl | rfl | rfl
    · go_wp2_with fail
      refine (H0.out _ HK.out).mono ?_
      rintro e w1 ⟨rfl, hi⟩
      replace hi := ehide3 hi
      clear e0 e1 e2 e3
      go_wp2
      go_roundw
      case rel => exact ⟨1, by omega, by go_num, hi⟩
      case measure => simp [intOf]
    · go_wp2_with fail
      refine (H1.out _ HK.out).mono ?_
      rintro e w1 ⟨rfl, hi⟩
      replace hi := ehide3 hi
      clear e0 e1 e2 e3
      go_wp2
      go_roundw
      case rel => exact ⟨2, by omega, by go_num, hi⟩
      case measure => simp [intOf]
    · go_wp2_with fail
      refine (H2.out _ HK.out).mono ?_
      rintro e w1 ⟨rfl, hi⟩
      replace hi := ehide3 hi
      clear e0 e1 e2 e3
      go_wp2
      go_roundw
      case rel => exact ⟨3, by omega, by go_num, hi⟩
      case measure => simp [intOf]
    · go_wp2_with fail
      refine (H3.out _ HK.out).mono ?_
      rintro e w1 ⟨rfl, hi⟩
      replace hi := ehide3 hi
      clear e0 e1 e2 e3
      go_wp2
      go_roundw
      case rel => exact ⟨4, by omega, by go_num, hi⟩
      case measure => simp [intOf]
    · clear e0 e1 e2 e3
      go_wp2
      go_ret
      exact ⟨rfl, HK.out⟩
theorem firstOf4_bad {g : Nat} {Q : World → Prop} (c0 : w.cell? ⟨g, 0, none⟩ = some (clo 29 o))
    (h0 : Calls Tryz.prog 29 #[.pointer (some ⟨o, 0, none⟩)] w fun e w' => e = .returned (flt 1) ∧ Q w') :
    Calls Tryz.prog 12 #[.slice (some ⟨g, 0, none⟩) 4 4] w fun e w' => e = .returned (flt 1) ∧ Q w' := by
  have H0 := ehide3 h0
  clear h0
  go_enter Tryz.func12, Tryz.ntmps12
  go_wp2_with fail
  go_loopw [8] (fun i wr => i = .int .i64 0 ∧ wr = w) (fun _ _ => 0)
  case atStart => exact ⟨rfl, rfl⟩
  case round =>
    obtain ⟨rfl, rfl⟩ := hrel
    go_wp2_with fail
    refine H0.out.mono ?_
    rintro e w1 ⟨rfl, hq⟩
    replace hq := ehide3 hq
    clear c0
    go_wp2
    go_ret
    exact ⟨rfl, hq.out⟩
end
end Go.Proofs.YthfcjfhaoabdeaaGreatDoor
