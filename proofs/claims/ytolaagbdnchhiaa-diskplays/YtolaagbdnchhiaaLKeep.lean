/-
  What is done elsewhere leaves a disk as it is; an operation that others may stand between.
-/
import Derived.Test.YtolaagbdnchhiaaLDisk
set_option linter.unusedVariables false
set_option linter.unusedSimpArgs false
namespace Go.Proofs.Ytolaagbdnchhiaa.Land
open Go.RowKit Go.Maps

section
variable {w w' : World} {K : Nat → Prop} {d : Nat} {P : PD} {cutAt : Int} {cuts gone : Bool}
/-- What the disk has is as it was. -/
structure Kept (K : Nat → Prop) (d : Nat) (w w' : World) : Prop where
  own : ∀ j, j < w.heap.size → (j = d ∨ K j) → w'.heap[j]? = w.heap[j]?
theorem Mem.keep {S : AD} {nb sb : Option Nat} {sv : Value} {cs : List Value} {vf : Nat → Value} (M : Mem w K d S nb sb sv cs vf) (e : Kept K d w w') : Mem w' K d S nb sb sv cs vf := by
  refine ⟨M.dk.same (e.own _ M.dk.lt (.inl rfl)), Dir.same M.now fun j h => e.own j (dir_lt M.now j h) (.inr (M.nlo j h)), Dir.same M.syn fun j h => e.own j (dir_lt M.syn j h) (.inr (M.slo j h)), M.nlo, M.slo, M.ne, row_same M.row fun j h => e.own j (M.row.lt j h).2 (.inr (M.rlo j h)), M.rlo, fun i ch hi => ?_, ⟨fun f x hf => ?_, M.fils.2⟩⟩
  · obtain ⟨c, h1, h2, h3⟩ := M.chs i ch hi
    exact ⟨c, h1, chat_boxes h2 fun j hj => e.own j (boxes_lt h2 j hj) (.inr (h3 j hj)), h3⟩
  · obtain ⟨h1, h2, h3, h4, h5, h6, h7⟩ := M.fils.1 f x hf
    exact ⟨(e.own _ h1.lt (.inr h6)).trans h1, row_same h2 fun j h => e.own j (World.ownsRow.lt h2 j h).2 (.inr (h7 j h)), h3, h4, h5, h6, h7⟩
theorem DR.keep (h : DR w K d P cutAt cuts gone) (e : Kept K d w w') : DR w' K d P cutAt cuts gone := by
  obtain ⟨S, ρ, ⟨nb, sb, sv, cs, vf, M⟩, h2⟩ := h
  exact ⟨S, ρ, ⟨nb, sb, sv, cs, vf, M.keep e⟩, h2⟩

/-- The set behind a call. -/
def more (K : Nat → Prop) (w w' : World) (j : Nat) : Prop := K j ∨ w.heap.size ≤ j ∧ j < w'.heap.size
/-- An operation, with the set as it is and as it becomes. -/
theorem grows {K : Nat → Prop} {f : FuncId} {args : Array Value} {v : Value} {P' : PD} {c : Int} {k g : Bool}
    (hc : ∀ L : Nat → Prop, (∀ j, j < w.heap.size → K j → L j) → (∀ j, j < w.heap.size → L j → K j) → (∀ j, w.heap.size ≤ j → L j) → Calls Try.prog f args w fun e w' => e = .returned v ∧ DR w' L d P' c k g ∧ Fr (KD L d) w w') :
    Calls Try.prog f args w fun e w' => e = .returned v ∧ DR w' (more K w w') d P' c k g ∧ Fr (KD K d) w w' := by
  refine (hc (fun j => K j ∨ w.heap.size ≤ j) (fun j _ h => .inl h) (fun j hj h => h.resolve_right (by omega)) (fun j h => .inr h)).mono ?_
  rintro e w' ⟨rfl, hD, hF⟩
  refine ⟨rfl, hD.mono fun j hj h => ?_, ⟨hF.os, hF.tape, hF.output, hF.size, fun j hj hn => hF.block j hj ?_⟩⟩
  · rcases h with h | h
    · exact .inl h
    · exact .inr ⟨h, hj⟩
  · rintro (e | e | e)
    · exact hn (.inl e)
    · exact hn (.inr e)
    · omega
end
end Go.Proofs.Ytolaagbdnchhiaa.Land
