/-
  The document's own disk: Append, whole.
-/
import Derived.Test.YtolaagbdnchhiaaRD13
set_option linter.unusedVariables false
set_option linter.unusedSimpArgs false
namespace Go.Proofs.Ytolaagbdnchhiaa
open Go.RowKit Go.Maps

theorem ref_append {w : World} {r : Nat} {κ : Nat → Ro} {P : PD} {cut : Int} {off : Bool} (h : RD w r κ P cut off) (hP : P.inv) (s : ByteArray) (hs : s.size ≤ maxLen) (ao : Option Addr) (len cap : Nat) (xs : List Int) (hsl : Sl w ao len cap xs) (hout : 0 < len → ∀ b o, ao = some ⟨b, o, none⟩ → κ b = .out) :
    Calls Try.prog 29 #[.pointer (some ⟨r, 0, none⟩), .string s, .slice ao len cap] w fun e w' => e = .returned (.int .i64 (if offed P.n cut off = true then 24 else (P.app s xs).1)) ∧ Rres w w' r κ (if offed P.n cut off = true then P else (P.app s xs).2) cut (offed P.n cut off) := by
  obtain ⟨vF, vO, vL, vN, φ, β, h⟩ := h
  have hl : (len : Int) ≤ 9223372036854775807 := by
    have h1 := hsl.2.1
    have h2 := hsl.2.2.1
    unfold maxLen at h2
    omega
  have hxl := hsl.1
  cases ho : offed P.n cut off with
  | true =>
    simp only [if_true]
    exact ref_app_off h s ao len cap ho
  | false =>
    simp only [Bool.false_eq_true, if_false]
    unfold PD.app
    cases hn : isName s with
    | false =>
      rw [if_pos rfl]
      exact ref_app_name h s hs ao len cap ho hn
    | true =>
      rw [if_neg (by decide)]
      cases hp : plook (kl s) P.now with
      | none =>
        by_cases hb : 65536 ≤ P.n ∨ 262144 < len ∨ 64 ≤ P.now.length
        · simp only [hxl]
          rw [if_pos hb]
          exact ref_app_new h hP s hs ao len cap hl ho hn hp hb
        · simp only [hxl]
          rw [if_neg hb]
          exact ref_app_make h hP s hs ao len cap xs hsl hout ho hn hp hb
      | some i =>
        by_cases hb : 65536 ≤ P.n ∨ 262144 < len + (P.at i).1.length
        · simp only [hxl]
          rw [if_pos hb]
          exact ref_app_old h hP s hs ao len cap hl ho hn i hp hb
        · simp only [hxl]
          rw [if_neg hb]
          exact ref_app_into h hP s hs ao len cap xs hsl hout ho hn i hp hb
end Go.Proofs.Ytolaagbdnchhiaa
