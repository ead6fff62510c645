/-
  SweepTakes: a sweep, stepped alone, takes just those versions away that do not stay. (Printed by gen_vsq.py.)
-/
import Derived.Test.YtfhcphgjaobnoaaDoorVsP
set_option linter.unusedVariables false
set_option linter.unusedSimpArgs false
namespace Go.Proofs.YtfhcphgjaobnoaaDoor
open Go.RowKit Go.Maps

/-- Both stores, the program's swept already, and the two rows. -/
structure Tq (w0 wr : World) (K J : Nat → Prop) (sb d rb M : Nat) (A1 : Stt) (u1 : Nat) (A : Stt) (u : Nat) (st : Int) (nv : Value) (m : Nat) (av : Value) (ys : List Int) : Prop where
  p : Rp wr K sb d 4000 M A1 u1
  r : Rf wr J rb A ((4000 : Int) - (u : Int)) st
  ap : ∀ j, K j → ¬ J j
  kb : ∀ j, K j ∨ J j → w0.heap.size ≤ j
  bl : Below w0.heap.size w0 wr
  n : Hr wr w0.heap.size nv (List.range' 1 m)
  na : ∀ j, nv.ownBlock = some j → ¬ (K j ∨ J j)
  a : Ir wr w0.heap.size av ys
  aa : ∀ j, av.ownBlock = some j → ¬ (K j ∨ J j)
  an : ∀ j, av.ownBlock = some j → nv.ownBlock ≠ some j
section
variable {w0 wr w2 : World} {K J Q : Nat → Prop} {sb d rb M M' u u1 m B ob : Nat} {A A1 : Stt} {st mark : Int} {nv av : Value} {xs ys zs : List Int}
theorem Tst.q (h : Tst w0 wr K J sb d rb M A u st nv m av xs) : Tq w0 wr K J sb d rb M A u A u st nv m av xs := ⟨h.l.p, h.l.r, h.l.ap, h.l.kb, h.l.bl, h.n, h.na, h.a, h.aa, h.an⟩
theorem Tq.set {g cap k : Nat} {x : Int} (h : Tq w0 wr K J sb d rb M A1 u1 A u st nv m (.slice (some ⟨g, 0, none⟩) ys.length cap) ys) (hw : 0 < w0.heap.size) (hk : k < ys.length) : Tq w0 (wr.setCell ⟨g, k, none⟩ (.int .i64 x)) K J sb d rb M A1 u1 A u st nv m (.slice (some ⟨g, 0, none⟩) ys.length cap) (ys.set k x) ∧ Fr (fun j => j = g) wr (wr.setCell ⟨g, k, none⟩ (.int .i64 x)) := by
  have hF : Fr (fun j => j = g) wr (wr.setCell ⟨g, k, none⟩ (.int .i64 x)) := Fr.setCell (p := ⟨g, k, none⟩) (Fr.refl (fun j => j = g) wr) (.inl rfl) _
  have hg := World.ownsRow.lt h.a g rfl
  have hr : Ir (wr.setCell ⟨g, k, none⟩ (.int .i64 x)) w0.heap.size (.slice (some ⟨g, 0, none⟩) ys.length cap) (ys.set k x) := by
    unfold Ir
    rw [List.length_set, List.map_set]
    exact (World.ownsRow.stored h.a k (.int .i64 x)).1
  refine ⟨⟨h.p.keep hF (fun j hj e => h.aa g rfl (.inl (e ▸ hj))) (fun e => by omega), h.r.keep hF (fun j hj e => h.aa g rfl (.inr (e ▸ hj))), h.ap, h.kb, h.bl.trans (hF.to (fun j hj e => by omega) h.bl.size), h.n.fr hF (fun j e q => h.an g rfl (q ▸ e)), h.na, hr, h.aa, h.an⟩, hF⟩
/-- An operation is done. -/
theorem Tq.done (h : Tq w0 wr K J sb d rb M A u A u st nv m av ys) (hB : w0.heap.size ≤ B) (hn : ∀ j, nv.ownBlock = some j → ¬ Q j) (ha : ∀ j, av.ownBlock = some j → ¬ Q j) (hj : ∀ j, J j → ¬ Q j) (hql : ∀ j, Q j → B ≤ j) (hD : DoneR wr w2 K Q sb d 4000 M B ob mark A u xs) :
    ∃ A' G K', Sws mark A xs A' G ∧ 3 * G ≤ u ∧ A'.la = A.la ∧ Opm w2 B Q ob (some ⟨sb, 0, none⟩) [] mark G true ∧ Tq w0 w2 K' J sb d rb (M + 30000 * xs.length) A' (u - 3 * G) A u st nv m av ys := by
  obtain ⟨A', G, K', s1, s2, s3, s4, s5, s6, s7, s8⟩ := hD
  have hsz := h.bl.size
  have old : ∀ j, j < wr.heap.size → K' j → K j := fun j hj q => (s6 j hj).1 q
  refine ⟨A', G, K', s1, s2, s3, s5, s4, h.r.keep s7 (fun j hj' q => by rcases q with q | q; exact h.ap j q hj'; exact hj j hj' q), fun j q z => h.ap j (old j (h.r.jl j z) q) z, fun j q => ?_, h.bl.trans (s7.to (fun j hj' e => ?_) hsz), h.n.fr s7 (fun j e q => by rcases q with q | q; exact h.na j e (.inl q); exact hn j e q), fun j e q => ?_, hrow_fr h.a s7 (fun j e q => by rcases q with q | q; exact h.aa j e (.inl q); exact ha j e q), fun j e q => ?_, h.an⟩
  · rcases q with q | q
    · rcases Nat.lt_or_ge j wr.heap.size with z | z
      · exact h.kb j (.inl (old j z q))
      · omega
    · exact h.kb j (.inr q)
  · rcases e with e | e
    · have := h.kb j (.inl e); omega
    · have := hql j e; omega
  · rcases q with q | q
    · exact h.na j e (.inl (old j (World.ownsRow.lt h.n j e).2 q))
    · exact h.na j e (.inr q)
  · rcases q with q | q
    · exact h.aa j e (.inl (old j (World.ownsRow.lt h.a j e).2 q))
    · exact h.aa j e (.inr q)
/-- The document's store is swept as well. -/
theorem Tq.both {G : Nat} (h : Tq w0 wr K J sb d rb M A1 u1 A u st nv m av ys) (hu : u1 = u - 3 * G) (hG : 3 * G ≤ u) (hR : Raf wr w2 J rb A1 ((4000 : Int) - (u : Int) + 3 * (G : Int)) st) : ∃ J', Ld w0 w2 K J' sb d rb M A1 u1 st ∧ Hr w2 w0.heap.size nv (List.range' 1 m) ∧ ∀ j, nv.ownBlock = some j → ¬ (K j ∨ J' j) := by
  obtain ⟨J', r1, r2, r3⟩ := hR
  have hsz := h.bl.size
  refine ⟨J', ⟨h.p.keep r3 (fun j q z => h.ap j q z) (fun e => by have := h.kb 0 (.inr e); have := h.p.tab.1; exact h.r.j0 e), by rw [show (4000 : Int) - (u1 : Int) = (4000 : Int) - (u : Int) + 3 * (G : Int) by omega]; exact r1, fun j q z => h.ap j q ((r2 j (h.p.kl j q)).1 z), fun j q => ?_, h.bl.trans (r3.to (fun j hj e => by have := h.kb j (.inr e); omega) hsz)⟩, h.n.fr r3 (fun j e q => h.na j e (.inr q)), fun j e q => ?_⟩
  · rcases q with q | q
    · exact h.kb j (.inl q)
    · rcases Nat.lt_or_ge j wr.heap.size with z | z
      · exact h.kb j (.inr ((r2 j z).1 q))
      · omega
  · rcases q with q | q
    · exact h.na j e (.inl q)
    · exact h.na j e (.inr ((r2 j (World.ownsRow.lt h.n j e).2).1 q))
end
end Go.Proofs.YtfhcphgjaobnoaaDoor
