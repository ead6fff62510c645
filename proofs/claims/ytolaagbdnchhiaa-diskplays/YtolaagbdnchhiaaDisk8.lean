/-
  A directory's copy.
-/
import Derived.Test.YtolaagbdnchhiaaDisk7
import Derived.Test.YtolaagbdnchhiaaShelf
set_option linter.unusedVariables false
set_option linter.unusedSimpArgs false
namespace Go.Proofs.Ytolaagbdnchhiaa
open Go.RowKit Go.Maps

theorem makeMapN (n : Nat) (w : World) : (Instr.makeMap 58 (some (.int .i64 (n : Int)))).run Try.prog w = .ok (.map (some w.heap.size)) (w.alloc (.map #[] 0)) := by kernel_rfl

theorem merge_self {w : World} {mb : Option Nat} {D : DataW Value} (h : Dir w mb D) : Lib.mergeD (.map []) D = dn D := by
  rcases h with ⟨rfl, rfl⟩ | ⟨b, n, rfl, ho⟩
  · rfl
  · rw [own_dn ho]
    have cD := ho.canonK dirKeyed
    have cE : CanonK (KeysOf Try.prog 9) (DataW.map [] : DataW Value) := ⟨[], rfl, List.Pairwise.nil, fun p hp => by cases hp⟩
    have hc := cD
    obtain ⟨es, rfl, hp, hk⟩ := hc
    have hkl : ∀ p ∈ es, WideAt.IsKeyLit p.1 := fun p hp => dirKeyed.one.key (hk p hp)
    have hne : es.Pairwise (fun p q => p.1 ≠ q.1) := hp.imp fun {a b} h e => by
      rw [e] at h
      exact absurd h (by rw [WideShapes.before_irrefl]; simp)
    refine ext (H := Value) ((canonK_fold dirKeyed.one es _ hk cE).canon dirKeyed.one) (cD.canon dirKeyed.one) (fun k => ?_) (fun k z _ => ?_)
    · show has (es.foldl (fun D p => D.put p.1 p.2) (DataW.map [])) k = _
      rw [has_foldPut k es _ ⟨_, rfl⟩ hkl]
      rfl
    · show (es.foldl (fun D p => D.put p.1 p.2) (DataW.map [])).atKey k z = _
      rw [atKey_foldPut k z es _ ⟨_, rfl⟩ hkl hne]
      rfl

theorem dn_size (D : DataW Value) (h : D = .nil ∨ ∃ es, D = .map es) : Maps.size (dn D) = Maps.size D := by
  rcases h with rfl | ⟨es, rfl⟩ <;> rfl

set_option maxHeartbeats 1000000 in
theorem copied_any {w : World} {mb : Option Nat} {D : DataW Value} (h : Dir w mb D) (hD : Maps.size D ≤ 1000000) :
    Calls Try.prog 50 #[.map mb] w fun e w' => ∃ b, e = .returned (.map (some b)) ∧ w.heap.size ≤ b ∧ w'.ownsMap Try.prog 9 RV b (Maps.size D) (dn D) ∧ Below w.heap.size w w' := by
  have hlen := h.len 3
  have hmk := makeMapN (Maps.size D) w
  have hmade := World.ownsMap_made w Try.prog 9 RV
  have hb1 : Below w.heap.size w (w.alloc (.map #[] 0)) := (Below.refl _ _).alloc (Nat.le_refl _) _
  have hjm : ∀ j, mb = some j → j < w.heap.size := fun j e => by
    rcases h with ⟨rfl, _⟩ | ⟨b, n, rfl, ho⟩
    · cases e
    · cases e; exact ho.lt
  have h1 : Dir (w.alloc (.map #[] 0)) mb D := Dir.same h fun j e => hb1.block j (hjm j e)
  have hcp := AnyX.maps_Copy_opt copyL dirKeyed RV w.heap.size 0 mb (.map []) D (w.alloc (.map #[] 0)) hmade h1 (fun e => by have := hjm _ e; omega) (by unfold maxLen; omega)
  change Calls Try.prog 66 _ _ _ at hcp
  rw [merge_self h, Nat.zero_add] at hcp
  go_enter Try.func50, Try.ntmps50
  go_wp2_with fail
  refine hcp.mono ?_
  rintro e w2 ⟨rfl, ho2, hg2⟩
  go_wp2
  go_ret
  exact ⟨_, rfl, Nat.le_refl _, ho2, hb1.trans ⟨hg2.os, hg2.tape, hg2.output, hg2.size, fun k hk => hg2.block k (by simp; omega) (by simp; omega)⟩⟩
end Go.Proofs.Ytolaagbdnchhiaa
