/-
  What the calls of package num do, each by itself: the contracts of bits.Len64, size, withRoom, appendNumber, Put, and of the law's own 'shown'.
-/
import Derived.Test.YtheidhkmmihjlaaRows
import Derived.Test.YtheidhkmmihjlaaKit
import Derived.Handy
set_option linter.unusedVariables false
set_option linter.unusedSimpArgs false
namespace Go.Proofs.Ytheidhkmmihjlaa
open Go.RowKit

theorem one_u8 (x : Int) : ∀ u ∈ [Value.int .u8 x], u.oneCell' = true := by intro u hu; simp at hu; subst hu; rfl
theorem ret_boolB {a b : Bool} (h : a = b) : Ending.returned (.bool a) = .returned (.bool b) := by rw [h]
theorem ret_intB {k : IntKind} {a b : Int} (h : a = b) : Ending.returned (.int k a) = .returned (.int k b) := by rw [h]

theorem tab_bd (k : Int) (b : UInt8) (h0 : 0 ≤ k) (h1 : k ≤ 56) : 0 ≤ wrap64 (k + wrap64 (b.toNat : Int)) ∧ wrap64 (k + wrap64 (b.toNat : Int)) ≤ 400 := by
  have := b.toNat_lt
  unfold wrap64
  omega
theorem tab_bd1 (b : UInt8) : 0 ≤ wrap64 (wrap64 (b.toNat : Int)) ∧ wrap64 (wrap64 (b.toNat : Int)) ≤ 400 := by
  have := b.toNat_lt
  unfold wrap64
  omega

set_option maxHeartbeats 1600000 in
set_option maxRecDepth 100000 in
/-- bits.Len64: a small number (which one is not asked here: it is room alone). -/
theorem len64_any (x : Int) (w : World) (h0 : 0 ≤ x) (h1 : x ≤ 18446744073709551615) :
    Calls Try.prog 84 #[.int .u64 x] w fun e w' => (∃ r : Int, e = .returned (.int .i64 r) ∧ 0 ≤ r ∧ r ≤ 400) ∧ w' = w := by
  go_enter Try.func84, Try.ntmps84
  go_wp2
  all_goals go_ret
  all_goals refine ⟨⟨_, rfl, ?_⟩, rfl⟩
  all_goals first | exact tab_bd _ _ (by decide) (by decide) | exact tab_bd1 _

theorem or_one_bd (n : Int) (h0 : 0 ≤ n) (h1 : n ≤ 18446744073709551615) : 0 ≤ bits BinOp.or IntKind.u64 n 1 ∧ bits BinOp.or IntKind.u64 n 1 ≤ 18446744073709551615 := by
  rw [u64_or n 1 h0 (by omega) (by decide) (by decide)]
  have : n.toNat ||| (1 : Int).toNat < 2 ^ 64 := Nat.or_lt_two_pow (by omega) (by decide)
  omega

theorem Try.size5 (u : World) : (Go.sizeOf 5).run Try.prog u = .ok 1 u := by kernel_rfl
theorem Try.infoU8 : (Try.prog.info? 5).map (fun i => (i.zero, i.size, i.bytes)) = some (some (.int .u8 0), 1, 1) := by kernel_rfl

end Go.Proofs.Ytheidhkmmihjlaa
