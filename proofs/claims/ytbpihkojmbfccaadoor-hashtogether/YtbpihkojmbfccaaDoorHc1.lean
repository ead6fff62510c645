/-
  HashAlone: what the loop holds.
-/
import Derived.Test.YtbpihkojmbfccaaDoorHb9
set_option linter.unusedVariables false
set_option linter.unusedSimpArgs false
namespace Go.Proofs.YtbpihkojmbfccaaDoor
open Go.RowKit Go.Maps Go.Sort

theorem infoAsk : (Tryd.prog.info? 30).map (fun i => (i.zero, i.size, i.bytes)) = some (some (.agg #[.int .i64 0, .bool false, .string .empty, .int .i64 0]), 4, 40) := by kernel_rfl

/-- A table, and what was put in, as asks in a row. -/
structure Lp (w wr : World) (tb d z nb M : Nat) (K : Nat → Prop) (s : Tb) (ins : List AskR) (v : Value) : Prop where
  ht : HT wr K tb d z M s
  sp : s.sp = []
  hd : s.hd.length = nb
  m1 : ∀ a ∈ ins, ∃ e ∈ s.all, e.k = a.key ∧ e.r = a.ref
  m2 : ∀ e ∈ s.all, ∃ a ∈ ins, a.key = e.k ∧ a.ref = e.r
  ln : ins.length = s.all.length
  row : Ar wr w.heap.size v ins
  kb : ∀ j, K j → w.heap.size ≤ j
  vk : ∀ j, v.ownBlock = some j → ¬ K j
  bl : Below w.heap.size w wr
  b0 : 0 < w.heap.size

section
variable {w wr w' : World} {tb d z nb M : Nat} {K : Nat → Prop} {s : Tb} {ins : List AskR} {v : Value}
theorem Lp.cells (h : Lp w wr tb d z nb M K s ins v) : s.cells.length = nb + ins.length := by
  unfold Tb.cells
  rw [List.length_append, List.length_append, List.length_map, h.sp, h.hd, h.ln]
  simp
theorem Lp.below (h : Lp w wr tb d z nb M K s ins v) (hb : Below wr.heap.size wr w') : Lp w w' tb d z nb M K s ins v :=
  ⟨h.ht.mono hb, h.sp, h.hd, h.m1, h.m2, h.ln, hrow_fr h.row (Fr.below (F := fun _ => False) hb) (fun _ _ => id), h.kb, h.vk, h.bl.trans ⟨hb.os, hb.tape, hb.output, hb.size, fun j hj => hb.block j (by have := h.bl.size; omega)⟩, h.b0⟩
/-- An operation of its own, which is the table's nor the row's, is changed. -/
theorem Lp.own {ob : Nat} (h : Lp w wr tb d z nb M K s ins v) (hF : Fr (fun j => j = ob) wr w') (h1 : ¬ K ob) (h2 : v.ownBlock ≠ some ob) (h3 : w.heap.size ≤ ob) (h0 : ob ≠ 0) : Lp w w' tb d z nb M K s ins v :=
  ⟨h.ht.keep hF (fun j hj e => h1 (e ▸ hj)) (fun e => h0 e.symm), h.sp, h.hd, h.m1, h.m2, h.ln, hrow_fr h.row hF (fun j e q => h2 (q ▸ e)), h.kb, h.vk, h.bl.trans (hF.to (fun j hj e => by omega) h.bl.size), h.b0⟩
/-- The table has gone on. -/
theorem Lp.went {ob M' : Nat} {K' : Nat → Prop} (h : Lp w wr tb d z nb M K s ins v) (hH : HT w' K' tb d z M' s) (hK : ∀ j, j < wr.heap.size → (K' j ↔ K j)) (hF : Fr (fun j => K j ∨ j = ob) wr w') (h2 : v.ownBlock ≠ some ob) (h3 : w.heap.size ≤ ob) : Lp w w' tb d z nb M' K' s ins v := by
  have hs := h.bl.size
  refine ⟨hH, h.sp, h.hd, h.m1, h.m2, h.ln, hrow_fr h.row hF (fun j e q => ?_), fun j hj => ?_, fun j e q => ?_, h.bl.trans (hF.to (fun j hj e => ?_) hs), h.b0⟩
  · rcases q with q | q
    · exact h.vk j e q
    · exact h2 (q ▸ e)
  · rcases Nat.lt_or_ge j wr.heap.size with q | q
    · exact h.kb j ((hK j q).1 hj)
    · omega
  · have := (World.ownsRow.lt h.row j e).2
    exact h.vk j e ((hK j this).1 q)
  · rcases e with e | e
    · have := h.kb j e; omega
    · omega
/-- A key was put in; the row has still to have it. -/
theorem Lp.putIn {ob M' c : Nat} {K' : Nat → Prop} {k : ByteArray} {r : Int} {a : AskR} (h : Lp w wr tb d z nb M K s ins v) (hl : bkt s.hd.length k < s.ch.length) (hH : HT w' K' tb d z M' { s with ch := s.ch.set (bkt s.hd.length k) (s.at (bkt s.hd.length k) ++ [⟨c, k, r⟩]) })
    (hK : ∀ j, j < wr.heap.size → (K' j ↔ K j)) (hF : Fr (fun j => K j ∨ j = ob) wr w') (h2 : v.ownBlock ≠ some ob) (h3 : w.heap.size ≤ ob) (ha : a.key = k ∧ a.ref = r) {w2 : World} {v2 : Value} (hF2 : Fr (fun j => v.ownBlock = some j) w' w2) (hr2 : Ar w2 w.heap.size v2 (ins ++ [a])) (hv2 : ∀ j, v2.ownBlock = some j → v.ownBlock = some j ∨ w'.heap.size ≤ j) :
    Lp w w2 tb d z nb M' K' { s with ch := s.ch.set (bkt s.hd.length k) (s.at (bkt s.hd.length k) ++ [⟨c, k, r⟩]) } (ins ++ [a]) v2 := by
  have hs := h.bl.size
  have hs2 := hF.size
  have hp : ({ s with ch := s.ch.set (bkt s.hd.length k) (s.at (bkt s.hd.length k) ++ [⟨c, k, r⟩]) } : Tb).all.Perm (s.all ++ [⟨c, k, r⟩]) := flatten_set s.ch _ hl
  have hvb : ∀ j, v.ownBlock = some j → ¬ K' j := fun j e q => by
    have := (World.ownsRow.lt h.row j e).2
    exact h.vk j e ((hK j this).1 q)
  have hv0 : v.ownBlock ≠ some 0 := fun e => by
    have := (World.ownsRow.lt h.row 0 e).1
    have := h.b0
    omega
  have hb' : Below w.heap.size w w' := h.bl.trans (hF.to (fun j hj e => by
    rcases e with e | e
    · have := h.kb j e; omega
    · omega) hs)
  refine ⟨hH.keep hF2 (fun j hj e => hvb j e hj) hv0, h.sp, h.hd, fun x hx => ?_, fun e he => ?_, ?_, hr2, fun j hj => ?_, fun j e q => ?_, hb'.trans (hF2.to (fun j hj e => ?_) hb'.size), h.b0⟩
  · rcases List.mem_append.1 hx with h1 | h1
    · obtain ⟨e, he, q⟩ := h.m1 x h1
      exact ⟨e, hp.mem_iff.2 (List.mem_append.2 (.inl he)), q⟩
    · simp at h1
      subst h1
      exact ⟨⟨c, k, r⟩, hp.mem_iff.2 (List.mem_append.2 (.inr (by simp))), ha.1.symm, ha.2.symm⟩
  · rcases List.mem_append.1 (hp.mem_iff.1 he) with h1 | h1
    · obtain ⟨x, hx, q⟩ := h.m2 e h1
      exact ⟨x, List.mem_append.2 (.inl hx), q⟩
    · simp at h1
      subst h1
      exact ⟨a, List.mem_append.2 (.inr (by simp)), ha.1, ha.2⟩
  · rw [hp.length_eq, List.length_append, List.length_append, h.ln]; rfl
  · rcases Nat.lt_or_ge j wr.heap.size with q | q
    · exact h.kb j ((hK j q).1 hj)
    · omega
  · rcases hv2 j e with q2 | q2
    · exact hvb j q2 q
    · have := hH.kl j q; omega
  · have := (World.ownsRow.lt h.row j e).1
    omega
end
end Go.Proofs.YtbpihkojmbfccaaDoor
