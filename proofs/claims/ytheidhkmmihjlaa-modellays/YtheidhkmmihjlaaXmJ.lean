/-
  XmJ: Do, whole; a model as the statements hold it.
-/
import Derived.Test.YtheidhkmmihjlaaXmC
import Derived.Test.YtheidhkmmihjlaaXmD
import Derived.Test.YtheidhkmmihjlaaXmE
import Derived.Test.YtheidhkmmihjlaaXmF
import Derived.Test.YtheidhkmmihjlaaXmG
import Derived.Test.YtheidhkmmihjlaaXmH
import Derived.Test.YtheidhkmmihjlaaXmI
set_option linter.unusedVariables false
set_option linter.unusedSimpArgs false
namespace Go.Proofs.Ytheidhkmmihjlaa
open Go.RowKit Go.Shelf Go.Maps
open ML (Ro RS Srt nless)
attribute [local go_sem] Oper.semAt_some
section
set_option maxHeartbeats 1000000
set_option maxRecDepth 100000
variable {w : World} {X b : Nat} {c : Option Nat} {S : Ms} {C : Cl} {B : Nat}
theorem do_all (h : Pm w X b c S) (hLen : S.L.length + 64 ≤ big) (C : Cl) : Calls Try.prog 13 #[ptr X, C.v] w fun e w' => Dn w w' X b c (stp S C) e := by
  by_cases hk : C.kind < 1 ∨ 11 < C.kind
  · have e : stp S C = (S, { code := 151 }) := by unfold stp; rw [if_pos hk]
    rw [e]
    exact do_bad h hk
  · obtain ⟨kind, mode, key, high, val, draw, nn⟩ := C
    simp only [] at hk
    rcases (show kind = 1 ∨ kind = 2 ∨ kind = 3 ∨ kind = 4 ∨ kind = 5 ∨ kind = 6 ∨ kind = 7 ∨ kind = 8 ∨ kind = 9 ∨ kind = 10 ∨ kind = 11 by omega) with rfl | rfl | rfl | rfl | rfl | rfl | rfl | rfl | rfl | rfl | rfl
    · exact do_1 h hLen mode draw nn key high val
    · exact do_2 h hLen mode draw nn key high val
    · exact do_3 h hLen mode draw nn key high val
    · exact do_4 h hLen mode draw nn key high val
    · exact do_5 h hLen mode draw nn key high val
    · exact do_6 h hLen mode draw nn key high val
    · exact do_7 h hLen mode draw nn key high val
    · exact do_8 h hLen mode draw nn key high val
    · exact do_9 h hLen mode draw nn key high val
    · exact do_10 h hLen mode draw nn key high val
    · exact do_11 h hLen mode draw nn key high val
/-- A model all of whose blocks were made behind a place; blocks of others that are kept. -/
def Mo (B : Nat) (K : List Nat) (w : World) (X : Nat) (S : Ms) : Prop := ∃ b c, Pm w X b c S ∧ B ≤ X ∧ B ≤ b ∧ (∀ j, c = some j → B ≤ j) ∧ B ≤ w.heap.size ∧ ∀ j ∈ K, j < w.heap.size ∧ ¬ Ex X b c j
def Kp (K : List Nat) (w w' : World) : Prop := ∀ j ∈ K, w'.heap[j]? = w.heap[j]?
variable {K : List Nat}
theorem Kp.trans {w1 w2 : World} (h : Kp K w w1) (k : Kp K w1 w2) : Kp K w w2 := fun j hj => (k j hj).trans (h j hj)
theorem Mo.ok (h : Mo B K w X S) : S.ok := by obtain ⟨b, c, hP, _⟩ := h; exact hP.ok
theorem Mo.base (h : Mo B K w X S) : B ≤ w.heap.size := by obtain ⟨_, _, _, _, _, _, h4, _⟩ := h; exact h4
theorem Mo.below {w' : World} (h : Mo B K w X S) (hb : Below w.heap.size w w') : Mo B K w' X S := by
  obtain ⟨b, c, hP, h1, h2, h3, h4, h5⟩ := h
  exact ⟨b, c, hP.below hb, h1, h2, h3, Nat.le_trans h4 hb.size, fun j hj => ⟨Nat.lt_of_lt_of_le (h5 j hj).1 hb.size, (h5 j hj).2⟩⟩
theorem Mo.kp {w' : World} (h : Mo B K w X S) (hb : Below w.heap.size w w') : Kp K w w' := by
  obtain ⟨b, c, hP, h1, h2, h3, h4, h5⟩ := h
  exact fun j hj => hb.block j (h5 j hj).1
theorem Mo.add (h : Mo B K w X S) (o : Obj) : Mo B (w.heap.size :: K) (w.alloc o) X S := by
  have hb := ML.below1 w o
  obtain ⟨b, c, hP, h1, h2, h3, h4, h5⟩ := h
  refine ⟨b, c, hP.below hb, h1, h2, h3, Nat.le_trans h4 hb.size, fun j hj => ?_⟩
  rcases List.mem_cons.1 hj with rfl | hj
  · exact ⟨by simp, fun e => by have := hP.ex_lt e; omega⟩
  · exact ⟨Nat.lt_of_lt_of_le (h5 j hj).1 hb.size, (h5 j hj).2⟩
theorem Dn.mo {w w' : World} {p : Ms × Rp} {e : Ending} (hd : Dn w w' X b c p e) (hlX : X < w.heap.size) (hlb : b < w.heap.size) (hlc : ∀ j, c = some j → j < w.heap.size) (h1 : B ≤ X) (h2 : B ≤ b) (h3 : ∀ j, c = some j → B ≤ j) (h4 : B ≤ w.heap.size) (h5 : ∀ j ∈ K, j < w.heap.size ∧ ¬ Ex X b c j) :
    ∃ v, e = .returned v ∧ RpV w' w.heap.size v p.2 ∧ Mo B K w' X p.1 ∧ Below B w w' ∧ Kp K w w' ∧ (∀ g, w.heap.size ≤ g → g < w'.heap.size → p.2.rows ≠ [] → Mo B (g :: K) w' X p.1) := by
  obtain ⟨v, c', rfl, hv, hP, hC, hcc⟩ := hd
  have hM : Mo B K w' X p.1 ∧ Below B w w' ∧ Kp K w w' := by
   refine ⟨⟨b, c', hP, h1, h2, fun j hj => ?_, Nat.le_trans h4 hC.size, fun j hj => ⟨Nat.lt_of_lt_of_le (h5 j hj).1 hC.size, ?_⟩⟩, hC.low h4 fun j hj => ?_, fun j hj => hC.2 j (h5 j hj).1 (h5 j hj).2⟩
   · rcases hcc with e | e | ⟨k, e, hk, _⟩
     · exact h3 j (by rw [← e]; exact hj)
     · rw [e] at hj; cases hj
     · rw [e] at hj; cases hj; omega
   · have h6 := h5 j hj
     rintro (q | q | q)
     · exact h6.2 (.inl q)
     · exact h6.2 (.inr (.inl q))
     · rcases hcc with e | e | ⟨k, e, hk, _⟩
       · exact h6.2 (.inr (.inr (by rw [← e]; exact q)))
       · rw [e] at q; cases q
       · rw [e] at q; cases q; omega
   · rcases hj with e | e | e
     · omega
     · omega
     · exact h3 j e
  refine ⟨v, rfl, hv, hM.1, hM.2.1, hM.2.2, fun g hg1 hg2 hne => ?_⟩
  have hK := hM.1
  refine ⟨b, c', hP, h1, h2, ?_, hK.base, fun j hj => ?_⟩
  · intro j hj
    rcases hcc with e | e | ⟨k, e, hk, _⟩
    · exact h3 j (by rw [← e]; exact hj)
    · rw [e] at hj; cases hj
    · rw [e] at hj; cases hj; omega
  · rcases List.mem_cons.1 hj with rfl | hj
    · refine ⟨hg2, ?_⟩
      rintro (q | q | q)
      · omega
      · omega
      · rcases hcc with e | e | ⟨k, e, hk, hr⟩
        · have := hlc j (by rw [← e]; exact q); omega
        · rw [e] at q; cases q
        · exact hne hr
    · refine ⟨Nat.lt_of_lt_of_le (h5 j hj).1 hC.size, ?_⟩
      have h6 := h5 j hj
      rintro (q | q | q)
      · exact h6.2 (.inl q)
      · exact h6.2 (.inr (.inl q))
      · rcases hcc with e | e | ⟨k, e, hk, _⟩
        · exact h6.2 (.inr (.inr (by rw [← e]; exact q)))
        · rw [e] at q; cases q
        · have h7 := h6.1; rw [e] at q; cases q; omega
theorem mo_do (h : Mo B K w X S) (hLen : S.L.length + 64 ≤ big) (C : Cl) : Calls Try.prog 13 #[ptr X, C.v] w fun e w' => ∃ v, e = .returned v ∧ RpV w' w.heap.size v (stp S C).2 ∧ Mo B K w' X (stp S C).1 ∧ Below B w w' ∧ Kp K w w' ∧ (∀ g, w.heap.size ≤ g → g < w'.heap.size → (stp S C).2.rows ≠ [] → Mo B (g :: K) w' X (stp S C).1) := by
  obtain ⟨b, c, hP, h1, h2, h3, h4, h5⟩ := h
  exact (do_all hP hLen C).mono fun e w' hd => hd.mo hP.lt hP.ltb (fun j hj => hP.ltc hj) h1 h2 h3 h4 h5
theorem mo_rows (h : Mo B K w X S) (hL : S.L.length ≤ big) : Calls Try.prog 16 #[ptr X] w fun e w' => ∃ ao cp, e = .returned (.slice ao S.L.length cp) ∧ RS w' ao S.L.length cp S.L ∧ (0 < S.L.length → ∃ g, ao = some ⟨g, 0, none⟩ ∧ w.heap.size ≤ g ∧ w'.there g 0 (S.L.length * 3)) ∧ Mo B K w' X S ∧ Below w.heap.size w w' := by
  have h' := h
  obtain ⟨b, c, hP, h1, h2, h3, h4, h5⟩ := h
  refine (rows_any hP hL).mono ?_
  rintro e w' ⟨v, rfl, ⟨ao, cap, rfl, h6, h7⟩, hb⟩
  exact ⟨ao, cap, rfl, h6, h7, h'.below hb, hb⟩
theorem mo_time (h : Mo B K w X S) : Calls Try.prog 18 #[ptr X] w fun e w' => e = .returned (.int .i64 S.t) ∧ w' = w := by
  obtain ⟨b, c, hP, _⟩ := h
  exact time_any hP
theorem rpv_slice {v : Value} {r : Rp} (h : RpV w B v r) : ∃ ao ln cp, v = .agg #[.int .i64 r.code, .string r.val, .bool r.found, .slice ao ln cp, .int .i64 r.time, .int .i64 0] ∧ RS w ao ln cp r.rows ∧ (0 < ln → ∃ g, ao = some ⟨g, 0, none⟩ ∧ B ≤ g ∧ w.there g 0 (ln * 3)) := by
  obtain ⟨sv, rfl, ⟨rfl, h0⟩ | ⟨_, ao, cap, rfl, h1, h2⟩⟩ := h
  · exact ⟨none, 0, 0, rfl, ⟨by rw [h0]; rfl, Nat.le_refl _, Nat.zero_le _, fun q => absurd q (Nat.lt_irrefl 0)⟩, fun q => absurd q (Nat.lt_irrefl 0)⟩
  · exact ⟨ao, _, cap, rfl, h1, h2⟩
theorem mo_code (h : Mo B K w X S) (hLen : S.L.length + 64 ≤ big) (C : Cl) : Calls Try.prog 21 #[ptr X, C.v] w fun e w' => e = .returned (.int .i64 (stp S C).2.code) ∧ Mo B K w' X (stp S C).1 ∧ Below B w w' ∧ Kp K w w' := by
  have hb1 := ML.below1 w C.obj
  have h1 := h.below hb1
  have hD := xhide (mo_do h1 hLen C)
  have hBw := h.base
  have HB1 := xhide hb1
  have HK1 := xhide (h.kp hb1)
  generalize stp S C = p at *
  clear h h1 hb1
  go_enter Try.func21, Try.ntmps21
  go_wp2_with fail
  refine hD.out.mono ?_
  rintro e w1 ⟨v, rfl, hv, hM, hb, hk, _⟩
  obtain ⟨ao, ln, cp, rfl, _⟩ := rpv_slice hv
  have HM := xhide hM
  have HB := xhide hb
  have HK := xhide hk
  clear hv hM hb hD hk
  go_wp2
  go_ret
  have hb2 := ML.below1 w1 (.cells (rpA p.2.code p.2.val p.2.found (.slice ao ln cp) p.2.time) 41)
  exact ⟨rfl, HM.out.below hb2, ((HB1.out.mono hBw).trans HB.out).trans (hb2.mono HM.out.base), (HK1.out.trans HK.out).trans (HM.out.kp hb2)⟩
end
end Go.Proofs.Ytheidhkmmihjlaa
