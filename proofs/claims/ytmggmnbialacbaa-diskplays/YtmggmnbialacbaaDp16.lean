/-
  How a slice of bytes that came in is opened, and what the form's own bounds say of its length.
-/
import Derived.Test.YtmggmnbialacbaaRows
import Derived.Test.YtmggmnbialacbaaDp1
import Derived.ProofKit
import Derived.OpenShut
import Derived.SizedLaws
set_option linter.unusedVariables false
set_option linter.unusedSimpArgs false
namespace Go.Proofs.Ytmggmnbialacbaa
open Go.RowKit Go.ChangeShapes Go.WideShapes Go.ChangeAt

/-- The datum of a slice with so many places. -/
def Places {H : Type} (d : DataW H) (cap : Nat) : Prop := (d = .nil ∧ cap = 0) ∨ ∃ es sp, d = .slice es sp ∧ es.length + sp.length = cap

theorem open_bytes {H : Type} {enc : TypeId × Value → H} {P : Program} {W : World} {t : TypeId} {a : Option Addr} {len cap : Nat} {d : DataW H} {p : List MemPlace}
    (ht : P.underlying t = some (.slice 5)) (he : P.underlying 5 = some (.int .u8)) (hc : P.cellsOf 5 = 1) (h : DataW.Trod enc P W 0 (fun _ => true) true t (.slice a len cap) d p) :
    ∃ xs, Sl W a len cap xs ∧ Places d cap := by
  obtain ⟨fuel, hf⟩ := h
  rcases open_ints ht he hc hf with ⟨hcs, hd⟩ | ⟨x, l, c, zs, hcs, _, hl, hm, hz, hd, hcell, hwz⟩
  · simp [Value.cells] at hcs
    obtain ⟨rfl, rfl, rfl⟩ := hcs
    simp only [Prod.mk.injEq] at hd
    exact ⟨[], Sl.nil W, .inl ⟨hd.1, rfl⟩⟩
  · simp [Value.cells] at hcs
    obtain ⟨rfl, rfl, rfl⟩ := hcs
    simp only [Prod.mk.injEq] at hd
    have hz' : zs.length = cap := by simpa using hz
    refine ⟨zs.take len, ⟨by simp; omega, hl, hm, fun y hy => bounds_u8 (hwz y (List.mem_of_mem_take hy)), (fun e => by cases e), fun hlen => ?_⟩, .inr ⟨_, _, hd.1, by simp [lits]; omega⟩⟩
    obtain ⟨b, off, sp⟩ := x
    have hc0 := hcell 0 (by omega)
    have hsp : sp = none := by simpa [Addr.add] using World.cell?_spot hc0
    subst hsp
    refine ⟨b, off, rfl, ?_, fun i hi => ?_⟩
    · rw [addr_add] at hc0
      exact World.block_lt_of_cell? W _ hc0
    · have := hcell i (by omega)
      rw [addr_add] at this
      rw [this]
      congr 2
      simp only [List.getD, List.getElem?_take_of_lt hi]

end Go.Proofs.Ytmggmnbialacbaa
