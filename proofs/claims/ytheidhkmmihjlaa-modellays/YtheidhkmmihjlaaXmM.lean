/-
  XmM: A transaction that is played and given up: ModelAborts.
-/
import Derived.Test.YtheidhkmmihjlaaXmK
import Derived.Test.YtheidhkmmihjlaaXmL
set_option linter.unusedVariables false
set_option linter.unusedSimpArgs false
namespace Go.Proofs.Ytheidhkmmihjlaa
open Go.RowKit Go.Shelf Go.Maps
open ML (Ro RS Srt nless)
attribute [local go_sem] Oper.semAt_some

theorem stp_begin (S : Ms) (h : S.ws = none) : stp S ⟨1, 2, z0, z0, z0, 0, 0⟩ = (⟨S.L, S.t, some []⟩, {}) := by simp [stp, wrg, fst0, badM, ans, h]
theorem wrt_keep (S : Ms) (x : Wr) : (wrt S x).1.L = S.L ∧ (wrt S x).1.t = S.t ∧ ((wrt S x).2.code = 160 ∧ (wrt S x).1.ws = none ∨ (wrt S x).2.code ≠ 160 ∧ (wrt S x).1.ws.isSome = true) := by
  unfold wrt
  split
  · exact ⟨rfl, rfl, .inl ⟨rfl, rfl⟩⟩
  · exact ⟨rfl, rfl, .inr ⟨by simp, rfl⟩⟩
theorem fst0_not : ∀ {l : List (Bool × Int)}, (∀ x ∈ l, x.2 ≠ 160) → fst0 l ≠ 160
  | [], _ => by simp [fst0]
  | (b, e) :: l, h => by
    unfold fst0
    split
    · exact h (b, e) List.mem_cons_self
    · exact fst0_not (l := l) fun x hx => h x (List.mem_cons_of_mem _ hx)
theorem wrg_not (S : Ms) (C : Cl) (n : Nat) : ∀ x ∈ wrg S C n, x.2 ≠ 160 := by
  intro x hx
  unfold wrg at hx
  split at hx <;> simp only [List.mem_cons, List.not_mem_nil, or_false] at hx
  all_goals
    repeat' (first | (rcases hx with rfl | hx) | subst hx)
  all_goals simp
theorem stp_keep {S : Ms} {C : Cl} (h7 : C.kind ≠ 7) (h8 : C.kind ≠ 8) (ho : S.ws.isSome = true) : (stp S C).1.L = S.L ∧ (stp S C).1.t = S.t ∧ ((stp S C).2.code = 160 ∧ (stp S C).1.ws = none ∨ (stp S C).2.code ≠ 160 ∧ (stp S C).1.ws.isSome = true) := by
  unfold stp
  by_cases h1 : C.kind < 1 ∨ 11 < C.kind
  · rw [if_pos h1]; exact ⟨rfl, rfl, .inr ⟨by simp, ho⟩⟩
  · rw [if_neg h1]
    by_cases h2 : fst0 (wrg S C C.kind.toNat) = 0
    · rw [if_pos h2]
      rcases (show C.kind = 1 ∨ C.kind = 2 ∨ C.kind = 3 ∨ C.kind = 4 ∨ C.kind = 5 ∨ C.kind = 6 ∨ C.kind = 9 ∨ C.kind = 10 ∨ C.kind = 11 by omega) with e | e | e | e | e | e | e | e | e
      all_goals rw [e] at h2 ⊢
      · exact ⟨rfl, rfl, .inr ⟨by simp [ans], rfl⟩⟩
      · exact ⟨rfl, rfl, .inr ⟨by simp [ans], ho⟩⟩
      · exact ⟨rfl, rfl, .inr ⟨by simp [ans], ho⟩⟩
      · exact wrt_keep S _
      · exact wrt_keep S _
      · exact wrt_keep S _
      · exact ⟨rfl, rfl, .inr ⟨by simp [ans], ho⟩⟩
      · exact ⟨rfl, rfl, .inr ⟨by simp [ans], ho⟩⟩
      · exact ⟨rfl, rfl, .inr ⟨by simp [ans], ho⟩⟩
    · rw [if_neg h2]; exact ⟨rfl, rfl, .inr ⟨fst0_not (wrg_not _ _ _), ho⟩⟩
/-- Calls in memory. -/
abbrev CS (w : World) (ao : Option Addr) (len cap : Nat) (l : List Cl) : Prop := Seq 7 Cl.cells w ao len cap l
section
set_option maxHeartbeats 1000000
set_option maxRecDepth 100000
variable {w : World} {X b : Nat} {c : Option Nat} {S : Ms} {C : Cl} {B : Nat} {ao : Option Addr} {len cap : Nat} {L : List Ro} {l : List Cl}
theorem begun_any (h : RS w ao len cap L) (hl : len + 64 ≤ big) : Calls Try.prog 19 #[.slice ao len cap] w fun e w' => Below w.heap.size w w' ∧
    ((okTo L L.length = false ∧ e = .returned (.pointer none)) ∨ (okTo L L.length = true ∧ ∃ X, e = .returned (ptr X) ∧ Mo w.heap.size [] w' X ⟨L, maxT L, some []⟩)) := by
  have hll := h.1
  have HN := xhide (new_any h (by unfold big at hl; omega))
  clear h
  go_enter Try.func19, Try.ntmps19
  go_wp2_with fail
  refine HN.out.mono ?_
  rintro e w1 ⟨hb1, ⟨hbad, rfl⟩ | ⟨hok, X, b, rfl, hP, hX, hb⟩⟩
  · have FIN := xhide hb1
    clear hb1 HN
    go_wp2
    go_ret
    exact ⟨FIN.out, .inl ⟨hbad, rfl⟩⟩
  · have hm : Mo w.heap.size [] w1 X ⟨L, maxT L, none⟩ := ⟨b, none, hP, hX, hb, nofun, hb1.size, nofun⟩
    have HM := xhide hm
    have HB := xhide hb1
    clear hP hm hb1 hX hb HN
    go_wp2_with fail
    refine (mo_code HM.out (by show L.length + 64 ≤ big; omega) ⟨1, 2, z0, z0, z0, 0, 0⟩).mono ?_
    rintro e w2 ⟨he, hm, hb, _⟩
    rw [stp_begin _ rfl] at he hm
    simp only [] at he hm
    subst he
    have FIN := xhide (HB.out.trans hb)
    have HM2 := xhide hm
    clear hm hb HM HB
    go_wp2
    go_ret
    exact ⟨FIN.out, .inr ⟨hok, X, rfl, HM2.out⟩⟩
theorem plays_any {W : World} (h : Mo B [] w X S) (ho : S.ws.isSome = true) (hLen : S.L.length + 64 ≤ big) (hl : CS W ao len cap l) (hW : Below W.heap.size W w) (hBW : W.heap.size ≤ B) : Calls Try.prog 20 #[ptr X, .slice ao len cap] w fun e w' => ∃ S', e = .returned (.bool S'.ws.isSome) ∧ Mo B [] w' X S' ∧ Below B w w' ∧ S'.L = S.L ∧ S'.t = S.t := by
  obtain rfl := hl.1
  have hmx : (l.length : Int) ≤ 9223372036854775807 := by have := hl.2.1; have := hl.2.2.1; unfold maxLen at this; omega
  have HL := xhide hl
  have HS0 : Hid (∃ S', Mo B [] w X S' ∧ Below B w w ∧ S'.L = S.L ∧ S'.t = S.t ∧ S'.ws.isSome = true) := xhide ⟨S, h, Below.refl _ _, rfl, rfl, ho⟩
  clear h hl
  go_enter Try.func20, Try.ntmps20
  go_wp2_with fail
  go_loopw [5] (fun i wr => ∃ k : Nat, k ≤ l.length ∧ i = .int .i64 (k : Nat) ∧ Hid (∃ S', Mo B [] wr X S' ∧ Below B w wr ∧ S'.L = S.L ∧ S'.t = S.t ∧ S'.ws.isSome = true)) (fun i _ => l.length - (intOf i).toNat)
  case atStart => exact ⟨0, by omega, rfl, HS0⟩
  case round =>
    obtain ⟨k, hk, rfl, HS⟩ := hrel
    clear HS0
    by_cases hlt : k < l.length ∧ k < 200
    · obtain ⟨hlt, h200⟩ := hlt
      obtain ⟨x, hx⟩ := some_at rfl hlt
      obtain ⟨g, off, rfl, hgl, hc⟩ := HL.out.2.2.2 (by omega)
      have hcw := fun S' (q : Mo B [] wr X S' ∧ Below B w wr ∧ S'.L = S.L ∧ S'.t = S.t ∧ S'.ws.isSome = true) j u hj => ((hW.trans (q.2.1.mono hBW)).cell (p := ⟨g, off + k * 7 + j, none⟩) hgl).trans (hc k x hx j u hj)
      obtain ⟨S', hM, hB, hSL, hSt, hSo⟩ := HS.out
      have c0 := hcw S' ⟨hM, hB, hSL, hSt, hSo⟩ 0 _ rfl
      have c1 := hcw S' ⟨hM, hB, hSL, hSt, hSo⟩ 1 _ rfl
      have c2 := hcw S' ⟨hM, hB, hSL, hSt, hSo⟩ 2 _ rfl
      have c3 := hcw S' ⟨hM, hB, hSL, hSt, hSo⟩ 3 _ rfl
      have c4 := hcw S' ⟨hM, hB, hSL, hSt, hSo⟩ 4 _ rfl
      have c5 := hcw S' ⟨hM, hB, hSL, hSt, hSo⟩ 5 _ rfl
      have c6 := hcw S' ⟨hM, hB, hSL, hSt, hSo⟩ 6 _ rfl
      rw [Nat.add_zero] at c0
      have d1 : (k : Int) < (l.length : Int) := by omega
      have d2 : (k : Int) < 200 := by omega
      have NX : Hid (∃ S', Mo B [] wr X S' ∧ Below B w wr ∧ S'.L = S.L ∧ S'.t = S.t ∧ S'.ws.isSome = true) := HS
      have hgr : g < wr.heap.size := by have := hM.base; omega
      clear hc hcw HS
      by_cases h7 : x.kind = 7
      · go_wp2_with fail
        go_roundw
        case rel => exact ⟨k + 1, by omega, by go_num, NX⟩
        case measure => simp [intOf]; omega
      · by_cases h8 : x.kind = 8
        · go_wp2_with fail
          go_roundw
          case rel => exact ⟨k + 1, by omega, by go_num, NX⟩
          case measure => simp [intOf]; omega
        · have b7 : (x.kind == 7) = false := by simpa using h7
          have b8 : (x.kind == 8) = false := by simpa using h8
          obtain ⟨p1, p2, p3⟩ := stp_keep (S := S') (C := x) h7 h8 hSo
          have HC := xhide (mo_code hM (by rw [hSL]; exact hLen) x)
          have HBw := xhide hB
          have hp1 := p1.trans hSL
          have hp2 := p2.trans hSt
          have HP := xhide p3
          have HP1 := xhide hp1
          have HP2 := xhide hp2
          generalize stp S' x = p at *
          clear hM hB hSL hSt hSo p1 p2 p3 hp1 hp2
          go_wp2_with fail
          refine HC.out.mono ?_
          rintro e w2 ⟨rfl, hm2, hb2, _⟩
          have HM2 := xhide hm2
          have HB2 := xhide (HBw.out.trans hb2)
          clear hm2 hb2 HC HBw
          by_cases hf : p.2.code = 160
          · have HF : Hid (p.1.ws.isSome = false) := xhide (by rcases HP.out with q | q; · rw [q.2]; rfl
                                                               · exact absurd hf q.1)
            go_wp2
            go_ret
            exact ⟨p.1, by rw [HF.out]; rfl, HM2.out, HB2.out, HP1.out, HP2.out⟩
          · have HF : Hid (p.1.ws.isSome = true) := xhide (by rcases HP.out with q | q; · exact absurd q.1 hf
                                                              · exact q.2)
            go_wp2_with fail
            go_roundw
            case rel => exact ⟨k + 1, by omega, by go_num, xhide ⟨p.1, HM2.out, HB2.out, HP1.out, HP2.out, HF.out⟩⟩
            case measure => simp [intOf]; omega
    · have FIN : Hid (∃ S', true = S'.ws.isSome ∧ Mo B [] wr X S' ∧ Below B w wr ∧ S'.L = S.L ∧ S'.t = S.t) := xhide (by
        obtain ⟨S', h1, h2, h3, h4, h5⟩ := HS.out
        exact ⟨S', h5.symm, h1, h2, h3, h4⟩)
      by_cases h1 : k < l.length
      · have d1 : (k : Int) < (l.length : Int) := by omega
        have d2 : ¬ (k : Int) < 200 := by omega
        go_wp2
        go_ret
        obtain ⟨S', f1, f2⟩ := FIN.out
        exact ⟨S', by rw [← f1]; rfl, f2⟩
      · have d1 : ¬ (k : Int) < (l.length : Int) := by omega
        go_wp2
        go_ret
        obtain ⟨S', f1, f2⟩ := FIN.out
        exact ⟨S', by rw [← f1]; rfl, f2⟩
end
end Go.Proofs.Ytheidhkmmihjlaa
