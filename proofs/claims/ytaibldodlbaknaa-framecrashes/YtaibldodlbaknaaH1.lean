/-
  Frames laid one behind the other: plain mathematics.
-/
import Derived.Test.YtaibldodlbaknaaF10
set_option linter.unusedVariables false
set_option linter.unusedSimpArgs false
namespace Go.Proofs.Ytaibldodlbaknaa
open Go.RowKit

/-- Bodies as frames, numbered from a number on. -/
def fras : Nat → List (List Int) → List Int
  | _, [] => []
  | f, b :: bs => fra f b ++ fras ((f + 1) % 18446744073709551616) bs
/-- Bodies that may be framed. -/
def Okb (bs : List (List Int)) : Prop := ∀ b ∈ bs, b.length ≤ 65536 ∧ Byt b
theorem Okb.tail {b : List Int} {bs : List (List Int)} (h : Okb (b :: bs)) : Okb bs := fun c hc => h c (List.mem_cons_of_mem _ hc)
theorem Okb.head {b : List Int} {bs : List (List Int)} (h : Okb (b :: bs)) : b.length ≤ 65536 ∧ Byt b := h b (List.mem_cons_self ..)
theorem Okb.take {bs : List (List Int)} (h : Okb bs) (k : Nat) : Okb (bs.take k) := fun c hc => h c (List.mem_of_mem_take hc)
theorem fras_byt : ∀ (f : Nat) (bs : List (List Int)), Okb bs → Byt (fras f bs)
  | _, [], _ => Byt.nil
  | f, b :: bs, h => (fra_byt f h.head.2).append (fras_byt _ bs h.tail)
/-- How many bytes frames of such bodies have. -/
def eo : List (List Int) → Nat
  | [] => 0
  | b :: bs => 32 * nb b.length + eo bs
theorem fras_len : ∀ (f : Nat) (bs : List (List Int)), (fras f bs).length = eo bs
  | _, [] => rfl
  | f, b :: bs => by simp only [fras, List.length_append, fra_len, fras_len _ bs, eo]
theorem eo_append : ∀ (bs cs : List (List Int)), eo (bs ++ cs) = eo bs + eo cs
  | [], cs => by simp [eo]
  | b :: bs, cs => by simp only [List.cons_append, eo, eo_append bs cs]; omega
theorem eo_32 : ∀ (bs : List (List Int)), eo bs % 32 = 0
  | [] => rfl
  | b :: bs => by have := eo_32 bs; simp only [eo]; omega
theorem eo_take_le (bs : List (List Int)) (k : Nat) : eo (bs.take k) ≤ eo bs := by
  conv => rhs; rw [← List.take_append_drop k bs]
  rw [eo_append]
  omega
theorem eo_bound : ∀ (bs : List (List Int)), Okb bs → eo bs ≤ 70000 * bs.length
  | [], _ => by simp [eo]
  | b :: bs, h => by
    have h1 := eo_bound bs h.tail
    have h2 := nb_lt b.length
    have h3 := h.head.1
    simp only [eo, List.length_cons]
    omega
theorem fras_snoc : ∀ (f : Nat) (bs : List (List Int)) (b : List Int), f < 18446744073709551616 → fras f (bs ++ [b]) = fras f bs ++ fra ((f + bs.length) % 18446744073709551616) b
  | f, [], b, h => by simp [fras, Nat.mod_eq_of_lt h]
  | f, c :: bs, b, h => by
    simp only [List.cons_append, fras, fras_snoc _ bs b (Nat.mod_lt _ (by decide)), List.append_assoc, List.length_cons]
    rw [show ((f + 1) % 18446744073709551616 + bs.length) % 18446744073709551616 = (f + (bs.length + 1)) % 18446744073709551616 from by omega]

theorem takA_at {x : List Int} (hb : Byt x) {p : Nat} {seq : Nat} {body : List Int} {rest : List Int} (hp : p % 32 = 0) (hx : x.drop p = fra seq body ++ rest) (hs : seq < 18446744073709551616) (hbb : Byt body) (hl : body.length ≤ 65536) : takA x (p : Int) = some (seq, body) := by
  have hlt : p < x.length := by
    have h1 := congrArg List.length hx
    have h2 := nb_pos body.length
    rw [List.length_append, fra_len, List.length_drop] at h1
    omega
  unfold takA
  rw [if_pos (by omega), Int.toNat_natCast]
  exact tak_fra (hb.drop p) hs hbb hl ⟨rest, hx.symm⟩
/-- Frames that lie there are gone over. -/
theorem goes_fras {x : List Int} (hb : Byt x) : ∀ (bs : List (List Int)) (p f : Nat) (rest : List Int), p % 32 = 0 → p ≤ x.length → x.drop p = fras f bs ++ rest → Okb bs → f < 18446744073709551616 → goes x bs p f = some (p + eo bs, (f + bs.length) % 18446744073709551616)
  | [], p, f, rest, hp, hpl, hx, ho, hf => by simp [goes, eo, Nat.mod_eq_of_lt hf]
  | b :: bs, p, f, rest, hp, hpl, hx, ho, hf => by
    rw [fras, List.append_assoc] at hx
    have ht := takA_at hb hp hx hf ho.head.2 ho.head.1
    have hl := congrArg List.length hx
    rw [List.length_append, fra_len, List.length_drop] at hl
    simp only [goes, ht, if_true]
    rw [goes_fras hb bs (p + 32 * nb b.length) ((f + 1) % 18446744073709551616) rest (by omega) (by omega) (by
      rw [← List.drop_drop, hx, List.drop_left' (fra_len _ _)]) ho.tail (Nat.mod_lt _ (by decide))]
    simp only [eo, List.length_cons]
    congr 2
    · omega
    · omega

theorem takA_past {x : List Int} (hb : Byt x) {a : Nat} (h : x.length ≤ a) : takA x (a : Int) = none := by
  unfold takA
  rw [if_neg (by omega)]
theorem late_past {x : List Int} (hb : Byt x) {a f : Nat} (h : x.length ≤ a) : ¬ Late x a f := by
  rintro ⟨i, seq, body, ht, _⟩
  rw [takA_past hb (by omega)] at ht
  cases ht

/-- All of frames, and nothing else. -/
theorem all_fras {bs cs : List (List Int)} {first a f : Nat} (ho : Okb bs) (hf : first < 18446744073709551616) (h1 : goes (fras first bs) cs 0 first = some (a, f)) (h2 : ∀ b, takA (fras first bs) (a : Int) ≠ some (f, b)) : cs = bs ∧ a = eo bs ∧ ¬ Late (fras first bs) a f := by
  have hb := fras_byt first bs ho
  have hl := fras_len first bs
  have hg := goes_fras hb bs 0 first [] rfl (by omega) (by simp) ho hf
  rw [Nat.zero_add] at hg
  obtain ⟨e1, e2, e3⟩ := goes_det _ _ _ _ _ _ _ _ _ h1 hg h2 (fun b => by rw [takA_past hb (by omega)]; simp)
  exact ⟨e1, e2, late_past hb (by omega)⟩
end Go.Proofs.Ytaibldodlbaknaa
