/-
  How a slice of slices of bytes that came in is opened.
-/
import Derived.Test.YtaibldodlbaknaaOpen
import Derived.Test.YtaibldodlbaknaaCrc
import Derived.Deep.Matrix
set_option linter.unusedVariables false
set_option linter.unusedSimpArgs false
namespace Go.Proofs.Ytaibldodlbaknaa
open Go.RowKit Go.ChangeShapes Go.WideShapes Go.ChangeAt Go.Deep

theorem row_bulk {H : Type} (a : Option Addr) (l : Nat) (z : List Int) (h : a = none → z = []) : (z.take l).length + 1 ≤ Rows.uptoBulk (intRow (H := H) .u8 a l z) := by
  cases a with
  | none =>
    rw [h rfl]
    have := bulk_one (intRow (H := H) .u8 none l [])
    simpa using this
  | some x =>
    have h1 := bulk_length (lits (H := H) .u8 (z.take l))
    simp only [intRow, Rows.uptoBulk]
    simp only [lits, List.length_map] at h1
    simp only [lits]
    omega

theorem rows_bulk {H : Type} (A : Nat → Option Addr) (L : Nat → Nat) (Z : Nat → List Int) : ∀ (rs : List Nat), (∀ r ∈ rs, A r = none → Z r = []) →
    (rs.map fun r => (Z r).take (L r)).flatten.length ≤ Rows.uptoBulkAll (rs.map fun r => intRow (H := H) .u8 (A r) (L r) (Z r))
  | [], _ => by simp [Rows.uptoBulkAll]
  | r :: rs, h => by
    have h1 := row_bulk (H := H) (A r) (L r) (Z r) (h r (List.mem_cons_self ..))
    have h2 := rows_bulk (H := H) A L Z rs fun q hq => h q (List.mem_cons_of_mem _ hq)
    simp only [List.map_cons, List.flatten_cons, List.length_append, Rows.uptoBulkAll]
    omega

theorem open_parts0 {H : Type} {enc : TypeId × Value → H} {W : World} {a : Option Addr} {len cap : Nat} {d : DataW H} {p : List MemPlace}
    (ht : Try.prog.underlying 35 = some (.slice 22)) (h : DataW.Trod enc Try.prog W 0 (fun _ => true) true 35 (.slice a len cap) d p) :
    ∃ ps, Pl W a len cap ps ∧ (Rows.uptoBulk d ≤ 1048576 → ps.flatten.length ≤ 1048576) := by
  obtain ⟨fuel, hf⟩ := h
  rcases open_int_rows ht Try.underlying22 Try.underlying5 (by kernel_rfl) (by kernel_rfl) hf with ⟨hcs, hd⟩ | ⟨x, l, c, A, L, C, Z, hcs, _, hl, hm, hd, hrow⟩
  · simp [Value.cells] at hcs
    obtain ⟨rfl, rfl, rfl⟩ := hcs
    exact ⟨[], ⟨rfl, Nat.le_refl _, Nat.zero_le _, fun h => absurd h (by omega)⟩, by simp⟩
  · simp [Value.cells] at hcs
    obtain ⟨rfl, rfl, rfl⟩ := hcs
    simp only [Prod.mk.injEq] at hd
    refine ⟨(List.range len).map fun r => (Z r).take (L r), ⟨by simp, hl, hm, fun h0 => ?_⟩, ?_⟩
    · obtain ⟨b, off, sp⟩ := x
      have hc0 := (hrow 0 (by omega)).1
      have hsp : sp = none := by simpa [Addr.add] using World.cell?_spot hc0
      subst hsp
      refine ⟨b, off, rfl, ?_, fun i hi => ?_⟩
      · rw [addr_add] at hc0
        exact World.block_lt_of_cell? W _ hc0
      · obtain ⟨r1, r2, r3, r4, r5, r6, r7⟩ := hrow i (by omega)
        rw [addr_add] at r1
        refine ⟨A i, L i, C i, r1, ?_⟩
        have e : ((List.range len).map fun r => (Z r).take (L r)).getD i [] = (Z i).take (L i) := by
          simp [List.getD, hi]
        rw [e]
        refine ⟨by simp; omega, r2, r3, fun y hy => bounds_u8 (r5 y (List.mem_of_mem_take hy)), (fun h => ⟨by have := r6 h; omega, r6 h⟩), fun hl0 => ?_⟩
        cases hA : A i with
        | none => have := r6 hA; omega
        | some a' =>
          obtain ⟨_, r8⟩ := r7 a' hA
          obtain ⟨b', off', sp'⟩ := a'
          have hc1 := r8 0 (by omega)
          have hsp : sp' = none := by simpa [Addr.add] using World.cell?_spot hc1
          subst hsp
          refine ⟨b', off', rfl, ?_, fun j hj => ?_⟩
          · rw [addr_add] at hc1
            exact World.block_lt_of_cell? W _ hc1
          · have := r8 j (by omega)
            rw [addr_add] at this
            rw [this]
            congr 2
            simp only [List.getD, List.getElem?_take_of_lt hj]
    · intro hb
      have h1 := rows_bulk (H := H) A L Z (List.range len) (fun r hr hA => by
        have hr2 : r < len := List.mem_range.1 hr
        obtain ⟨_, _, _, r4, _, r6, _⟩ := hrow r (by omega)
        exact List.eq_nil_of_length_eq_zero (by rw [r4]; exact r6 hA))
      rw [hd.1] at hb
      simp only [Rows.uptoBulk] at hb
      omega

theorem open_parts {H : Type} {enc : TypeId × Value → H} {W : World} {a : Option Addr} {len cap : Nat} {d : DataW H} {p : List MemPlace}
    (ht : Try.prog.underlying 35 = some (.slice 22)) (h : DataW.Trod enc Try.prog W 0 (fun _ => true) true 35 (.slice a len cap) d p) (hb : Rows.uptoBulk d ≤ 1048576) :
    ∃ ps, Pl W a len cap ps ∧ ps.flatten.length ≤ 1048576 := by
  obtain ⟨ps, h1, h2⟩ := open_parts0 ht h
  exact ⟨ps, h1, h2 hb⟩
end Go.Proofs.Ytaibldodlbaknaa
