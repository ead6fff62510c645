/-
  A version, a transaction is taken away: the store in memory.
-/
import Derived.Test.YtohgjpljobmpaaaDoorTaD
set_option linter.unusedVariables false
set_option linter.unusedSimpArgs false
namespace Go.Proofs.YtohgjpljobmpaaaDoor
open Go.RowKit Go.Maps

section
variable {w w' : World} {K : Nat → Prop} {sb d g : Nat} {m0 m1 m2 : Option Nat} {T T' : List Bool} {N N' : List Int} {m m' : Int} {F F' : List Nat} {own own' : Nat → Option (Nat × Nat)} {pl : Nat → Nat → Nat} {k1 b : Nat} {A : Stt}
theorem Sm.off1 (h : Sm w K sb d g m0 m1 m2 T N m F own pl k1 A) {n : Nat} (hn : A.lv 1 n = true) (hF : Fr K w w') (hA : Aw w' d g T' N' m' F') (hpc : Plc (lvk (A.off 1 n)) (A.off 1 n).va T' N' own' pl)
    (hst : Sb w' sb d (A.la 0) m0 (A.la 1) m1 (A.la 2) m2) (hp : Mp w' m1 (fOf ((A.off 1 n).lv 1) (vrV pl A.tx)) (A.la 1) (k1 - 1)) (k0' : ∃ k, Mp w' m0 (fOf (A.lv 0) (ndV pl)) (A.la 0) k) (k2' : ∃ k, Mp w' m2 (fOf (A.lv 2) (txV pl)) (A.la 2) k) :
    Sm w' K sb d g m0 m1 m2 T' N' m' F' own' pl (k1 - 1) (A.off 1 n) := by
  obtain ⟨q0, k0'⟩ := k0'
  obtain ⟨q2, k2'⟩ := k2'
  refine ⟨hA, hst, ⟨q0, ?_⟩, hp, ⟨q2, ?_⟩, Stt.off_ok h.ok (by decide), hpc, fun l h1 h2 => ct_del (nn := n) h.ct hn l h1 (fun x hx => ?_), h.tab.fr hF h.k0, h.k0, h.kk, fun j hj => Nat.lt_of_lt_of_le (h.kl j hj) hF.size, h.a1, h.a2⟩
  · exact k0'.eqv (fOf_congr (fun x => by show up2 A.lv 1 n false 0 x = _; exact up2_other _ _ (fun q => by omega)) (fun x => rfl))
  · exact k2'.eqv (fOf_congr (fun x => by show up2 A.lv 1 n false 2 x = _; exact up2_other _ _ (fun q => by omega)) (fun x => rfl))
  · have hx2 := h2 x hx
    have hx3 : up2 A.lv 1 n false 1 x = true := hx2
    by_cases e : x = n
    · rw [e, up2_same] at hx3; cases hx3
    · rw [up2_other _ _ (fun q => e q.2)] at hx3
      exact ⟨hx3, e⟩
theorem Sm.off2 (h : Sm w K sb d g m0 m1 m2 T N m F own pl k1 A) {n : Nat} (hF : Fr K w w') (hA : Aw w' d g T' N' m' F') (hpc : Plc (lvk (A.off 2 n)) (A.off 2 n).va T' N' own' pl)
    (hst : Sb w' sb d (A.la 0) m0 (A.la 1) m1 (A.la 2) m2) (hp : ∃ k, Mp w' m2 (fOf ((A.off 2 n).lv 2) (txV pl)) (A.la 2) k) (k0' : ∃ k, Mp w' m0 (fOf (A.lv 0) (ndV pl)) (A.la 0) k) (k1' : Mp w' m1 (fOf (A.lv 1) (vrV pl A.tx)) (A.la 1) k1) :
    Sm w' K sb d g m0 m1 m2 T' N' m' F' own' pl k1 (A.off 2 n) := by
  obtain ⟨q0, k0'⟩ := k0'
  refine ⟨hA, hst, ⟨q0, ?_⟩, ?_, hp, Stt.off_ok h.ok (by decide), hpc, fun l h1 h2 => h.ct l h1 (fun x hx => ?_), h.tab.fr hF h.k0, h.k0, h.kk, fun j hj => Nat.lt_of_lt_of_le (h.kl j hj) hF.size, h.a1, h.a2⟩
  · exact k0'.eqv (fOf_congr (fun x => by show up2 A.lv 2 n false 0 x = _; exact up2_other _ _ (fun q => by omega)) (fun x => rfl))
  · exact k1'.eqv (fOf_congr (fun x => by show up2 A.lv 2 n false 1 x = _; exact up2_other _ _ (fun q => by omega)) (fun x => rfl))
  · have hx2 := h2 x hx
    have hx3 : up2 A.lv 2 n false 1 x = true := hx2
    rw [up2_other _ _ (fun q => by omega)] at hx3
    exact hx3
theorem Mp.some_of {f : Int → Option Value} {mb : Option Nat} {q k : Nat} {n : Int} {v : Value} (h : Mp w mb f q k) (e : f n = some v) : ∃ b, mb = some b := by
  rcases h with ⟨_, h, _⟩ | ⟨b, D, h, _⟩
  · rw [h n] at e; cases e
  · exact ⟨b, h⟩
end
end Go.Proofs.YtohgjpljobmpaaaDoor
