/-
  Both disks beside one another: the program's, and the document's.
-/
import Derived.Test.YtolaagbdnchhiaaRD16
import Derived.Test.YtolaagbdnchhiaaLNothing
import Derived.Test.YtolaagbdnchhiaaRD6
set_option linter.unusedVariables false
set_option linter.unusedSimpArgs false
namespace Go.Proofs.Ytolaagbdnchhiaa
open Go.RowKit Go.Maps

/-- The program's disk has P (the power goes at c; o: it is gone), the document's has Q; E: blocks that are neither's. -/
structure Jg (w : World) (E : Nat → Prop) (d r : Nat) (P : PD) (c : Int) (o : Bool) (Q : PD) (c' : Int) (o' : Bool) : Prop where
  it : ∃ K κ ca, Land.DR w K d P ca (decide (0 ≤ c)) o ∧ RD w r κ Q c' o' ∧ (0 ≤ c → ca = c) ∧ (∀ j, (K j ∨ j = d) → j < w.heap.size ∧ κ j = .out ∧ ¬ E j) ∧ (∀ j, E j → κ j = .out ∧ j < w.heap.size)
  pi : P.inv
  qi : Q.inv

theorem RD.frs {w : World} {r : Nat} {κ : Nat → Ro} {P : PD} {cut : Int} {off : Bool} (h : RD w r κ P cut off) : ∀ g, κ g ≠ .out → g < w.heap.size := by
  obtain ⟨_, _, _, _, _, _, h⟩ := h
  exact h.frs

section
variable {w w' : World} {E : Nat → Prop} {d r : Nat} {P Q : PD} {c c' : Int} {o o' : Bool}

theorem Jg.prog {f : FuncId} {args : Array Value} {A : Value → World → Prop} {P' : PD} {c1 : Int} {o1 : Bool} (h : Jg w E d r P c o Q c' o') (hP' : P'.inv)
    (hc : ∀ K ca, Land.DR w K d P ca (decide (0 ≤ c)) o → (0 ≤ c → ca = c) → (∀ j, E j → ¬ K j ∧ j ≠ d) → Calls Try.prog f args w fun e w' => ∃ v, e = .returned v ∧ A v w' ∧ (∃ ca1, (0 ≤ c1 → ca1 = c1) ∧ Land.DR w' (Land.more K w w') d P' ca1 (decide (0 ≤ c1)) o1) ∧ Fr (Land.KD K d) w w') :
    Calls Try.prog f args w fun e w' => ∃ v, e = .returned v ∧ A v w' ∧ Jg w' E d r P' c1 o1 Q c' o' ∧ Fr (fun j => ¬ E j) w w' := by
  obtain ⟨⟨K, κ, ca, h1, h2, h3, h4, h5⟩, hp, hq⟩ := h
  have hE : ∀ j, E j → ¬ K j ∧ j ≠ d := fun j e => ⟨fun k => (h4 j (.inl k)).2.2 e, fun k => (h4 j (.inr k)).2.2 e⟩
  refine (hc K ca h1 h3 hE).mono ?_
  rintro e w' ⟨v, rfl, hA, ⟨ca1, hca, hD⟩, F⟩
  have hR : RD w' r κ Q c' o' := h2.keep ⟨F.size, fun j hj hn => F.block j hj fun q => by
    rcases q with q | q
    · exact hn (h4 j (.inr q)).2.1
    · exact hn (h4 j (.inl q)).2.1⟩
  have hz := F.size
  refine ⟨v, rfl, hA, ⟨⟨Land.more K w w', κ, ca1, hD, hR, hca, fun j hj => ?_, fun j e => ⟨(h5 j e).1, by have := (h5 j e).2; omega⟩⟩, hP', hq⟩, F.mono fun j _ q e => ?_⟩
  · rcases hj with (hj | ⟨hj, hj2⟩) | hj
    · have := h4 j (.inl hj)
      exact ⟨by omega, this.2⟩
    · refine ⟨hj2, ?_, fun e => by have := (h5 j e).2; omega⟩
      by_cases q : κ j = .out
      · exact q
      · have := h2.frs j q
        omega
    · have := h4 j (.inr hj)
      exact ⟨by omega, this.2⟩
  · rcases q with q | q
    · exact (hE j e).2 q
    · exact (hE j e).1 q

theorem Jg.ref {f : FuncId} {args : Array Value} {A : Value → World → Prop} {Q' : PD} {c1 : Int} {o1 : Bool} (h : Jg w E d r P c o Q c' o') (hQ' : Q'.inv)
    (hc : ∀ κ, RD w r κ Q c' o' → (∀ j, E j → κ j = .out) → Calls Try.prog f args w fun e w' => ∃ v, e = .returned v ∧ A v w' ∧ Rres w w' r κ Q' c1 o1) :
    Calls Try.prog f args w fun e w' => ∃ v, e = .returned v ∧ A v w' ∧ Jg w' E d r P c o Q' c1 o1 ∧ Fr (fun j => ¬ E j) w w' := by
  obtain ⟨⟨K, κ, ca, h1, h2, h3, h4, h5⟩, hp, hq⟩ := h
  refine (hc κ h2 fun j e => (h5 j e).1).mono ?_
  rintro e w' ⟨v, rfl, hA, κ', hR, ho, F⟩
  have hz := F.size
  have hD : Land.DR w' K d P ca (decide (0 ≤ c)) o := h1.keep ⟨fun j hj q => F.block j hj fun e => e (h4 j (q.elim .inr .inl)).2.1⟩
  refine ⟨v, rfl, hA, ⟨⟨K, κ', ca, hD, hR, h3, fun j hj => ?_, fun j e => ?_⟩, hp, hQ'⟩, F.mono fun j _ q e => q (h5 j e).1⟩
  · obtain ⟨q1, q2, q3⟩ := h4 j hj
    exact ⟨by omega, by rw [ho j q1]; exact q2, q3⟩
  · obtain ⟨q1, q2⟩ := h5 j e
    exact ⟨by rw [ho j q2]; exact q1, by omega⟩

/-- What is done elsewhere. -/
theorem Jg.keep (h : Jg w E d r P c o Q c' o') {E' : Nat → Prop} (F : Fr E w w') (hE : ∀ j, E' j → E j ∨ w.heap.size ≤ j ∧ j < w'.heap.size) : Jg w' E' d r P c o Q c' o' := by
  obtain ⟨⟨K, κ, ca, h1, h2, h3, h4, h5⟩, hp, hq⟩ := h
  have hz := F.size
  have hD : Land.DR w' K d P ca (decide (0 ≤ c)) o := h1.keep ⟨fun j hj q => F.block j hj fun e => (h4 j (q.elim .inr .inl)).2.2 e⟩
  have hR : RD w' r κ Q c' o' := h2.keep ⟨F.size, fun j hj hn => F.block j hj fun e => hn (h5 j e).1⟩
  refine ⟨⟨K, κ, ca, hD, hR, h3, fun j hj => ?_, fun j e => ?_⟩, hp, hq⟩
  · obtain ⟨q1, q2, q3⟩ := h4 j hj
    exact ⟨by omega, q2, fun e => by
      rcases hE j e with e | e
      · exact q3 e
      · omega⟩
  · rcases hE j e with e | e
    · exact ⟨(h5 j e).1, by have := (h5 j e).2; omega⟩
    · refine ⟨?_, e.2⟩
      by_cases q : κ j = .out
      · exact q
      · have := h2.frs j q
        omega

/-- The program's operations, with power or without. -/
theorem prog_any {K : Nat → Prop} {ca : Int} {f : FuncId} {args : Array Value} {F : Int × PD} (h : Land.DR w K d P ca (decide (0 ≤ c)) o) (hca : 0 ≤ c → ca = c)
    (on : On P.n ca (decide (0 ≤ c)) o → ∀ L : Nat → Prop, Land.DR w L d P ca (decide (0 ≤ c)) o → (∀ j, j < w.heap.size → L j → K j) → (∀ j, w.heap.size ≤ j → L j) → Calls Try.prog f args w fun e w' => e = .returned (.int .i64 F.1) ∧ Land.DR w' L d F.2 ca (decide (0 ≤ c)) o ∧ Fr (Land.KD L d) w w')
    (off : Off P.n ca (decide (0 ≤ c)) o → ∀ now syn since, Dk w d now syn since P.n ca (decide (0 ≤ c)) o → Calls Try.prog f args w fun e w' => e = .returned (.int .i64 24) ∧ Dk w' d now syn since P.n ca (decide (0 ≤ c)) true ∧ Fr (fun j => j = d) w w') :
    Calls Try.prog f args w fun e w' => ∃ v, e = .returned v ∧ v = .int .i64 (if offed P.n c o = true then 24 else F.1) ∧ (∃ ca1, (0 ≤ c → ca1 = c) ∧ Land.DR w' (Land.more K w w') d (if offed P.n c o = true then P else F.2) ca1 (decide (0 ≤ c)) (offed P.n c o)) ∧ Fr (Land.KD K d) w w' := by
  cases ho : offed P.n c o with
  | false =>
    simp only [offed, Bool.or_eq_false_iff, Bool.and_eq_false_iff, decide_eq_false_iff_not] at ho
    obtain ⟨rfl, ho⟩ := ho
    have hon : On P.n ca (decide (0 ≤ c)) false := by
      refine ⟨rfl, ?_⟩
      by_cases h0 : 0 ≤ c
      · right
        rw [hca h0]
        omega
      · left
        simpa using h0
    refine (Land.grows (K := K) fun L hKL hLK hL => on hon L (h.mono fun j hj k => hKL j hj k) hLK hL).mono ?_
    rintro e w' ⟨rfl, hD, hF⟩
    exact ⟨_, rfl, rfl, ⟨ca, hca, hD⟩, hF⟩
  | true =>
    have hoff : Off P.n ca (decide (0 ≤ c)) o := by
      simp only [offed, Bool.or_eq_true, Bool.and_eq_true, decide_eq_true_eq] at ho
      rcases ho with ho | ⟨h0, h1⟩
      · exact .inl ho
      · exact .inr ⟨by simpa using h0, by rw [hca h0]; exact h1⟩
    refine (Land.dr_power h (c := ca) (k := decide (0 ≤ c)) (g := true) (off hoff)).mono ?_
    rintro e w' ⟨rfl, hD, hF⟩
    exact ⟨_, rfl, rfl, ⟨ca, hca, hD.mono fun j _ k => .inl k⟩, hF⟩
end
end Go.Proofs.Ytolaagbdnchhiaa
