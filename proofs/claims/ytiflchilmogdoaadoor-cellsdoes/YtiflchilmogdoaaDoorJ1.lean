/-
  Both arenas beside each other: what is asked of one, and of the other.
-/
import Derived.Test.YtiflchilmogdoaaDoorR5
import Derived.Test.YtiflchilmogdoaaDoorCApart
import Derived.Test.YtiflchilmogdoaaDoorCBack
set_option linter.unusedVariables false
set_option linter.unusedSimpArgs false
namespace Go.Proofs.YtiflchilmogdoaaDoor
open Go.RowKit

/-- What the document's Do answers, and leaves. -/
structure RDid (w' : World) (B r n : Nat) (R : List Bool) (H : List Int) (m : Int) (hv tv : Value) (o : OpR) (v x : Int) : Prop where
  bad : o.k < 1 ∨ 4 < o.k → v = 0 ∧ x = 2 ∧ Rw w' B r n R H m hv tv
  yes : 1 ≤ o.k ∧ o.k ≤ 4 → tk R o.c = true → v = (act o.k.toNat o.a o.b (H.getD o.c.toNat 0)).1 ∧ x = 0 ∧ Rw w' B r n R (H.set o.c.toNat (act o.k.toNat o.a o.b (H.getD o.c.toNat 0)).2) (m + 1) hv tv
  no : 1 ≤ o.k ∧ o.k ≤ 4 → tk R o.c = false → v = 0 ∧ x = 30 ∧ Rw w' B r n R H m hv tv

theorem refDo_any {w : World} {B r n : Nat} {R : List Bool} {H : List Int} {m : Int} {hv tv : Value} (h : Rw w B r n R H m hv tv) (hB : B ≤ w.heap.size) (o : OpR) (ho : o.ok) (hm : 0 ≤ m ∧ m < 4611686018427387904) :
    Calls Tryd.prog 26 #[.pointer (some ⟨r, 0, none⟩), opV o.k o.c o.a o.b] w fun e w' => ∃ v x, e = .returned (.tuple #[.int .u64 v, .int .i64 x]) ∧ RDid w' B r n R H m hv tv o v x ∧ Fr (fun k => B ≤ k) w w' := by
  obtain ⟨h1, h2, h3, h4⟩ := ho
  by_cases hk : 1 ≤ o.k ∧ o.k ≤ 4
  · cases ht : tk R o.c with
    | false =>
      refine (refDo_out h hB o.k o.c o.a o.b hk ht).mono ?_
      rintro e w' ⟨rfl, hA, hF⟩
      exact ⟨0, 30, rfl, ⟨fun e => by omega, (fun _ e => by rw [ht] at e; cases e), fun _ _ => ⟨rfl, rfl, hA⟩⟩, hF⟩
    | true =>
      obtain ⟨h0, hl⟩ := tk_lt ht
      obtain ⟨k, c, a, b⟩ := o
      simp only at *
      obtain ⟨c, rfl⟩ : ∃ n : Nat, c = n := ⟨c.toNat, by omega⟩
      have hcase : k = 1 ∨ k = 2 ∨ k = 3 ∨ k = 4 := by omega
      rcases hcase with rfl | rfl | rfl | rfl
      · refine (refDo_load h hB c a b ht hm).mono ?_
        rintro e w' ⟨rfl, hA, hF⟩
        refine ⟨_, _, rfl, ⟨fun e => by simp only at e; omega, fun _ _ => ⟨rfl, rfl, ?_⟩, (fun _ e => by simp only at e; rw [ht] at e; cases e)⟩, hF⟩
        show Rw w' B r n R (H.set c (H.getD c 0)) (m + 1) hv tv
        rw [set_self H c (by rw [h.len]; simpa using hl)]
        exact hA
      · refine (refDo_store h hB c a b ht hm h3).mono ?_
        rintro e w' ⟨rfl, hA, hF⟩
        exact ⟨_, _, rfl, ⟨fun e => by simp only at e; omega, fun _ _ => ⟨rfl, rfl, hA⟩, (fun _ e => by simp only at e; rw [ht] at e; cases e)⟩, hF⟩
      · by_cases hx : H.getD c 0 = a
        · refine (refDo_casYes h hB c a b ht hm h4 hx).mono ?_
          rintro e w' ⟨rfl, hA, hF⟩
          have e1 : act (3 : Int).toNat a b (H.getD c 0) = (1, b) := by rw [hx]; simp [act]
          refine ⟨_, _, rfl, ⟨fun e => by simp only at e; omega, fun _ _ => ⟨?_, rfl, ?_⟩, (fun _ e => by simp only at e; rw [ht] at e; cases e)⟩, hF⟩
          · show (1 : Int) = (act (3 : Int).toNat a b (H.getD c 0)).1
            rw [e1]
          · show Rw w' B r n R (H.set c (act (3 : Int).toNat a b (H.getD c 0)).2) (m + 1) hv tv
            rw [e1]
            exact hA
        · refine (refDo_casNo h hB c a b ht hm hx).mono ?_
          rintro e w' ⟨rfl, hA, hF⟩
          have e1 : act (3 : Int).toNat a b (H.getD c 0) = (0, H.getD c 0) := by show act 3 a b (H.getD c 0) = _; unfold act; rw [if_neg (by decide), if_neg (by decide), if_pos rfl, if_neg hx]
          refine ⟨_, _, rfl, ⟨fun e => by simp only at e; omega, fun _ _ => ⟨?_, rfl, ?_⟩, (fun _ e => by simp only at e; rw [ht] at e; cases e)⟩, hF⟩
          · show (0 : Int) = (act (3 : Int).toNat a b (H.getD c 0)).1
            rw [e1]
          · show Rw w' B r n R (H.set c (act (3 : Int).toNat a b (H.getD c 0)).2) (m + 1) hv tv
            rw [e1, set_self H c (by rw [h.len]; simpa using hl)]
            exact hA
      · refine (refDo_add h hB c a b ht hm).mono ?_
        rintro e w' ⟨rfl, hA, hF⟩
        have e1 : act (4 : Int).toNat a b (H.getD c 0) = (IntKind.u64.wrap (H.getD c 0 + a), IntKind.u64.wrap (H.getD c 0 + a)) := by show act 4 a b (H.getD c 0) = _; simp [act, IntKind.wrap_u64]
        refine ⟨_, _, rfl, ⟨fun e => by simp only at e; omega, fun _ _ => ⟨?_, rfl, ?_⟩, (fun _ e => by simp only at e; rw [ht] at e; cases e)⟩, hF⟩
        · show _ = (act (4 : Int).toNat a b (H.getD c 0)).1
          rw [e1]
        · show Rw w' B r n R (H.set c (act (4 : Int).toNat a b (H.getD c 0)).2) (m + 1) hv tv
          rw [e1]
          exact hA
  · have hk2 : o.k < 1 ∨ 4 < o.k := by omega
    refine (refDo_bad h hB o.k o.c o.a o.b hk2).mono ?_
    rintro e w' ⟨rfl, hA, hF⟩
    exact ⟨0, 2, rfl, ⟨fun _ => ⟨rfl, rfl, hA⟩, fun e => by omega, fun e => by omega⟩, hF⟩

/-- Both arenas beside each other. -/
structure Jn (w : World) (d g B r n : Nat) (T : List Bool) (N : List Int) (R : List Bool) (H : List Int) (m : Int) : Prop where
  a : ∃ F, Aw w d g T N m F
  r : ∃ hv tv, Rw w B r n R H m hv tv
  tl : T.length = n
  eq : ∀ c, T.getD c false = R.getD c false
  nh : ∀ c, R.getD c false = true → N.getD c 0 = H.getD c 0
  lo : d < B ∧ g < B ∧ d ≠ 0 ∧ g ≠ 0
  hb : B ≤ w.heap.size

section
variable {w w' : World} {d g B r n : Nat} {T R : List Bool} {N H : List Int} {m : Int}
theorem Jn.tk (h : Jn w d g B r n T N R H m) (c : Int) : tk T c = tk R c := by unfold Go.Proofs.YtiflchilmogdoaaDoor.tk; rw [h.eq]
theorem count_eq : ∀ (T R : List Bool), (∀ c, T.getD c false = R.getD c false) → T.count true = R.count true
  | [], [], _ => rfl
  | [], y :: R, h => by
    have h0 : false = y := by simpa using h 0
    have h1 := count_eq [] R (fun c => by simpa using h (c + 1))
    rw [← h0]
    simpa using h1
  | x :: T, [], h => by
    have h0 : x = false := by simpa using h 0
    have h1 := count_eq T [] (fun c => by simpa using h (c + 1))
    rw [h0]
    simpa using h1
  | x :: T, y :: R, h => by
    have h0 : x = y := by simpa using h 0
    have h1 := count_eq T R (fun c => by simpa using h (c + 1))
    rw [h0, List.count_cons, List.count_cons, h1]
theorem Jn.count (h : Jn w d g B r n T N R H m) : T.count true = R.count true := count_eq T R h.eq

/-- A number that both have. -/
theorem Jn.put (h : Jn w d g B r n T N R H m) (c : Nat) (y m' : Int) (hA : ∃ F, Aw w' d g T (N.set c y) m' F) (hR : ∃ hv tv, Rw w' B r n R (H.set c y) m' hv tv) (hb : B ≤ w'.heap.size) : Jn w' d g B r n T (N.set c y) R (H.set c y) m' := by
  refine ⟨hA, hR, h.tl, h.eq, fun i hi => ?_, h.lo, hb⟩
  obtain ⟨F, hA0⟩ := h.a
  obtain ⟨hv, tv, hR0⟩ := h.r
  rw [getD_set, getD_set]
  have hil : i < R.length := by
    rcases Nat.lt_or_ge i R.length with h1 | h1
    · exact h1
    · simp [List.getD, List.getElem?_eq_none h1] at hi
  have h1 := hA0.len
  have h2 := hR0.len
  have h3 := hR0.top
  have h4 := h.tl
  by_cases hic : i = c
  · rw [if_pos ⟨hic, by omega⟩, if_pos ⟨hic, by omega⟩]
  · rw [if_neg (fun e => hic e.1), if_neg (fun e => hic e.1)]
    exact h.nh i hi
theorem Jn.keep (h : Jn w d g B r n T N R H m) (hA : ∃ F, Aw w' d g T N m F) (hR : ∃ hv tv, Rw w' B r n R H m hv tv) (hb : B ≤ w'.heap.size) : Jn w' d g B r n T N R H m := ⟨hA, hR, h.tl, h.eq, h.nh, h.lo, hb⟩
theorem Jn.alloc (h : Jn w d g B r n T N R H m) (o : Obj) : Jn (w.alloc o) d g B r n T N R H m := by
  obtain ⟨F, hA⟩ := h.a
  obtain ⟨hv, tv, hR⟩ := h.r
  exact h.keep ⟨F, hA.same (blk_alloc _ _ _ hA.ab.lt) (blk_alloc _ _ _ hA.nb.lt)⟩ ⟨hv, tv, hR.alloc o⟩ (by have := h.hb; simp; omega)
end
end Go.Proofs.YtiflchilmogdoaaDoor
