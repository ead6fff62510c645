/-
  Both disks beside one another: the program's, and the document's.
-/
import Derived.Test.YtgifcgniphncdaaGreatDoorPk13
import Derived.Test.YtgifcgniphncdaaGreatDoorPk12
import Derived.Deep.DeepCutAuto
set_option linter.unusedVariables false
set_option linter.unusedSimpArgs false
namespace Go.Proofs.YtgifcgniphncdaaGreatDoor
open Go.RowKit Go.Maps

section
variable {w w' : World} {E : Nat → Prop} {d r : Nat} {P Q : PD} {c c' : Int} {o o' : Bool}

/-- The program's operations, with power or without. -/
theorem prog_any {K : Nat → Prop} {ca : Int} {f : FuncId} {args : Array Value} {F : Int × PD} (h : Land.DR w K d P ca (decide (0 ≤ c)) o) (hca : 0 ≤ c → ca = c)
    (on : On P.n ca (decide (0 ≤ c)) o → ∀ L : Nat → Prop, Land.DR w L d P ca (decide (0 ≤ c)) o → (∀ j, j < w.heap.size → L j → K j) → (∀ j, w.heap.size ≤ j → L j) → Calls Tryz.prog f args w fun e w' => e = .returned (.int .i64 F.1) ∧ Land.DR w' L d F.2 ca (decide (0 ≤ c)) o ∧ Fr (Land.KD L d) w w')
    (off : Off P.n ca (decide (0 ≤ c)) o → ∀ now syn since, Dk w d now syn since P.n ca (decide (0 ≤ c)) o → Calls Tryz.prog f args w fun e w' => e = .returned (.int .i64 24) ∧ Dk w' d now syn since P.n ca (decide (0 ≤ c)) true ∧ Fr (fun j => j = d) w w') :
    Calls Tryz.prog f args w fun e w' => ∃ v, e = .returned v ∧ v = .int .i64 (if offed P.n c o = true then 24 else F.1) ∧ (∃ ca1, (0 ≤ c → ca1 = c) ∧ Land.DR w' (Land.more K w w') d (if offed P.n c o = true then P else F.2) ca1 (decide (0 ≤ c)) (offed P.n c o)) ∧ Fr (Land.KD K d) w w' := by
  cases ho : offed P.n c o with
  | false =>
    simp only [offed, Bool.or_eq_false_iff, Bool.and_eq_false_iff, decide_eq_false_iff_not] at ho
    obtain ⟨rfl, ho⟩ := ho
    have hon : On P.n ca (decide (0 ≤ c)) false := by
      refine ⟨rfl, ?_⟩
      by_cases h0 : 0 ≤ c
      · right
        rw [hca h0]
        omega
      · left
        simpa using h0
    refine (Land.grows (K := K) fun L hKL hLK hL => on hon L (h.mono fun j hj k => hKL j hj k) hLK hL).mono ?_
    rintro e w' ⟨rfl, hD, hF⟩
    exact ⟨_, rfl, rfl, ⟨ca, hca, hD⟩, hF⟩
  | true =>
    have hoff : Off P.n ca (decide (0 ≤ c)) o := by
      simp only [offed, Bool.or_eq_true, Bool.and_eq_true, decide_eq_true_eq] at ho
      rcases ho with ho | ⟨h0, h1⟩
      · exact .inl ho
      · exact .inr ⟨by simpa using h0, by rw [hca h0]; exact h1⟩
    refine (Land.dr_power h (c := ca) (k := decide (0 ≤ c)) (g := true) (off hoff)).mono ?_
    rintro e w' ⟨rfl, hD, hF⟩
    exact ⟨_, rfl, rfl, ⟨ca, hca, hD.mono fun j _ k => .inl k⟩, hF⟩
end
end Go.Proofs.YtgifcgniphncdaaGreatDoor

/-
  Both disks beside one another: each operation of each.
-/
set_option linter.unusedVariables false
set_option linter.unusedSimpArgs false
namespace Go.Proofs.YtgifcgniphncdaaGreatDoor
open Go.RowKit Go.Maps

/-- What a call answers, and leaves: with power, or without. -/
def ans (n : Int) (c : Int) (o : Bool) (F : Int × PD) : Int := if offed n c o = true then 24 else F.1
def lef (P : PD) (c : Int) (o : Bool) (F : Int × PD) : PD := if offed P.n c o = true then P else F.2
theorem lef_inv {P : PD} {c : Int} {o : Bool} {F : Int × PD} (hp : P.inv) (hF : F.2.inv) : (lef P c o F).inv := by
  unfold lef
  split
  · exact hp
  · exact hF

section
variable {w w' : World} {E : Nat → Prop} {d r : Nat} {P Q : PD} {c c' : Int} {o o' : Bool}

end
end Go.Proofs.YtgifcgniphncdaaGreatDoor
