/-
  Lb2: Leave, Readers, Writer; are two rows the same?
-/
import Derived.Test.YtafbchjmjfpilaaDoorLb1
import Derived.Test.YtafbchjmjfpilaaDoorSeq
set_option linter.unusedVariables false
set_option linter.unusedSimpArgs false
namespace Go.Proofs.YtafbchjmjfpilaaDoor
open Go.RowKit

section
set_option maxHeartbeats 2000000
set_option maxRecDepth 100000
theorem wo_one {r me : Nat} (hr : r < 65536) (hm : me < 16) : wo r (2 ^ me) = Lk.lvr r me := by
  apply Nat.eq_of_testBit_eq
  intro k
  rw [wo_bit hr (pow16_lt hm), Nat.testBit_two_pow, Lk.lvr_bit]
  by_cases h : me = k
  · subst h; simp
  · have : k ≠ me := fun q => h q.symm
    simp [h, this]
theorem wo_ws {x me : Nat} (hx : x ≤ 16) (hm : me < 16) : wo (ws x) (2 ^ me) = ws (if x = me + 1 then 0 else x) := by
  apply Nat.eq_of_testBit_eq
  intro k
  rw [wo_bit (ws_lt hx) (pow16_lt hm), ws_bit, ws_bit, Nat.testBit_two_pow]
  by_cases h : me = k
  · subst h
    by_cases q : x = me + 1
    · simp [q]
    · simp [q]
  · by_cases q : x = me + 1
    · subst q
      have : ¬ me + 1 = k + 1 := by omega
      simp [h, this]
    · simp [h, q]

/-- What a call of Leave answers; who reads, who writes. -/
def lvV (v : Nat) (me : Int) : Nat × Int := if isW me = false then (0, 2) else if Lk.rt v = false then (0, 130) else (Lk.lvd v me.toNat, 0)
def rsV (v : Nat) : List Nat := if Lk.rt v = false then [] else Lk.rds v
theorem rds_wo {v r x : Nat} (h : Lk.Wo v r x) : Lk.rds v = Lk.rds r := by
  unfold Lk.rds
  exact List.filter_congr (fun k hk => h.bit (by have := List.mem_range.1 hk; omega))
def wtV (v : Nat) : Nat × Bool := if Lk.rt v = false then (0, false) else (v / 4294967296 - 1, decide (v / 4294967296 ≠ 0))
/-- Two rows that are the same. -/
def nvl (n : Nat) : List Value := [nv n]
theorem Hr.seq {w : World} {base : Nat} {ao : Option Addr} {cap : Nat} {l : List Nat} (h : Hr w base (.slice ao l.length cap) l) : Seq 1 nvl w ao l.length cap l := by
  have hm : l.length ≤ cap ∧ cap ≤ maxLen := by
    rcases h.2 with ⟨e, h0⟩ | ⟨g, cap', cur, e, _, _, h1, h2, _⟩
    · injection e with e1 e2 e3
      rw [e3]; exact ⟨by omega, Nat.zero_le _⟩
    · injection e with e1 e2 e3
      rw [e3]; exact ⟨h1, h2⟩
  refine ⟨rfl, hm.1, hm.2, fun hl => ?_⟩
  obtain ⟨g, e, _, hg, hc⟩ := h.cell hl
  refine ⟨g, 0, e, hg, fun i x hi j u hu => ?_⟩
  have hi2 := (List.getElem?_eq_some_iff.1 hi).1
  have h1 := hc i hi2
  cases j with
  | zero =>
    simp only [nvl, List.getElem?_cons_zero, Option.some.injEq] at hu
    subst hu
    simp only [List.getD, hi, Option.getD_some] at h1
    simpa using h1
  | succ j => simp [nvl] at hu

theorem ints_same {w : World} {ao bo : Option Addr} {c1 c2 : Nat} {l : List Nat} {len : Nat} (h1 : Seq 1 nvl w ao len c1 l) (h2 : Seq 1 nvl w bo len c2 l) :
    Calls Tryd.prog 11 #[.slice ao len c1, .slice bo len c2] w fun e w' => e = .returned (.bool true) ∧ ∃ q, w' = w.drewN q := by
  have hcap := h1.2.1
  have hmax := h1.2.2.1
  have hcap2 := h2.2.1
  have hmax2 := h2.2.2.1
  unfold maxLen at hmax hmax2
  have H1 := hide2 h1
  have H2 := hide2 h2
  clear h1 h2
  go_enter Tryd.func11, Tryd.ntmps11
  go_wp2
  go_loopw [5] (fun i wr => ∃ k q : Nat, k ≤ len ∧ i = .int .i64 (k : Nat) ∧ wr = w.drewN q) (fun i _ => len - (intOf i).toNat)
  case atStart => exact ⟨0, 0, Nat.zero_le _, rfl, rfl⟩
  case round =>
    obtain ⟨k, q, hk, rfl, rfl⟩ := hrel
    by_cases hlt : k < len
    · have d1 : decide ((k : Int) < (len : Int)) = true := by simp; omega
      have d2 : (k : Int) < (len : Int) := by omega
      obtain ⟨b, off, rfl, hbl, hcell⟩ := H1.out.2.2.2 (by omega)
      obtain ⟨b2, off2, rfl, hbl2, hcell2⟩ := H2.out.2.2.2 (by omega)
      obtain ⟨x, hx⟩ := some_at H1.out.1 hlt
      have q1 : (w.drewN q).cell? ⟨b, off + k, none⟩ = some (.int .i64 (x : Int)) := by
        show w.cell? _ = _
        have := hcell k x hx 0 _ rfl
        simpa [nv] using this
      have q2 : (w.drewN q).cell? ⟨b2, off2 + k, none⟩ = some (.int .i64 (x : Int)) := by
        show w.cell? _ = _
        have := hcell2 k x hx 0 _ rfl
        simpa [nv] using this
      clear hcell hcell2 hx
      obtain ⟨W, hW⟩ : ∃ x, x = w.drewN q := ⟨_, rfl⟩
      rw [← hW] at q1 q2 ⊢
      have HW := hide2 hW
      clear hW
      go_wp2
      go_quiet (fail)
      go_wp2
      go_roundw
      case rel => exact ⟨k + 1, q + nq, by omega, by go_num, by rw [HW.out]; simp [World.drewN, Nat.add_assoc]⟩
      case measure => simp [intOf]; omega
    · have d1 : decide ((k : Int) < (len : Int)) = false := by simp; omega
      have d2 : ¬ (k : Int) < (len : Int) := by omega
      go_wp2
      go_ret
      exact ⟨rfl, q, rfl⟩
end
end Go.Proofs.YtafbchjmjfpilaaDoor
