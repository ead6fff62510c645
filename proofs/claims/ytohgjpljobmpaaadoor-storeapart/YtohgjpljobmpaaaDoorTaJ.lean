/-
  How many cells are taken; a version in front of a chain.
-/
import Derived.Test.YtohgjpljobmpaaaDoorTaI
set_option linter.unusedVariables false
set_option linter.unusedSimpArgs false
namespace Go.Proofs.YtohgjpljobmpaaaDoor
open Go.RowKit Go.Maps

section
variable {w : World} {K : Nat → Prop} {sb d z M u : Nat} {A : Stt}
theorem Rp.used (h : Rp w K sb d z M A u) : Calls Tryd.prog 26 #[.pointer (some ⟨d, 0, none⟩)] w fun e w' => e = .returned (.int .i64 (u : Nat)) ∧ w' = w := by
  obtain ⟨g, m0, m1, m2, T, N, m, F, own, pl, k1, h, r1, r2, r⟩ := h
  have := Used_any h.aw
  rw [r2] at this
  exact this
theorem mbg_small {n : Nat} (h : n < 1000) : mbg (n : Int) = true := by
  unfold mbg ptO kd
  rw [if_pos (by omega)]
  simp
  omega
/-- A version is made in front of a chain, and pushed. -/
def Stt.front (A : Stt) (n : Nat) (t : ByteArray) (b x : Int) : Stt := (A.ver t b x).put 0 n ((A.la 1 + 1 : Nat) : Int)
theorem front_la (n : Nat) (t : ByteArray) (b x : Int) : (A.front n t b x).la = up1 A.la 1 (A.la 1 + 1) := rfl
theorem front_va0 (n : Nat) (t : ByteArray) (b x : Int) (k : Nat) : (A.front n t b x).va 0 k = if k = n then ((A.la 1 + 1 : Nat) : Int) else A.va 0 k := by
  show up2 (up2 (up2 (up2 A.va 2 (A.la 1 + 1) b) 3 (A.la 1 + 1) 1099511627776) 4 (A.la 1 + 1) x) 0 n ((A.la 1 + 1 : Nat) : Int) 0 k = _
  by_cases e : k = n
  · rw [e, up2_same, if_pos rfl]
  · rw [up2_other _ _ (fun q => e q.2), if_neg e, up2_other _ _ (fun q => by omega), up2_other _ _ (fun q => by omega), up2_other _ _ (fun q => by omega)]
theorem front_va3 (n : Nat) (t : ByteArray) (b x : Int) (k : Nat) : (A.front n t b x).va 3 k = if k = A.la 1 + 1 then 1099511627776 else A.va 3 k := by
  show up2 (up2 (up2 (up2 A.va 2 (A.la 1 + 1) b) 3 (A.la 1 + 1) 1099511627776) 4 (A.la 1 + 1) x) 0 n ((A.la 1 + 1 : Nat) : Int) 3 k = _
  rw [up2_other _ _ (fun q => by omega), up2_other _ _ (fun q => by omega)]
  by_cases e : k = A.la 1 + 1
  · rw [e, up2_same, if_pos rfl]
  · rw [up2_other _ _ (fun q => e q.2), if_neg e, up2_other _ _ (fun q => by omega)]
theorem front_va4 (n : Nat) (t : ByteArray) (b x : Int) (k : Nat) : (A.front n t b x).va 4 k = if k = A.la 1 + 1 then x else A.va 4 k := by
  show up2 (up2 (up2 (up2 A.va 2 (A.la 1 + 1) b) 3 (A.la 1 + 1) 1099511627776) 4 (A.la 1 + 1) x) 0 n ((A.la 1 + 1 : Nat) : Int) 4 k = _
  rw [up2_other _ _ (fun q => by omega)]
  by_cases e : k = A.la 1 + 1
  · rw [e, up2_same, if_pos rfl]
  · rw [up2_other _ _ (fun q => e q.2), if_neg e, up2_other _ _ (fun q => by omega), up2_other _ _ (fun q => by omega)]
theorem front_lv (n : Nat) (t : ByteArray) (b x : Int) (c k : Nat) : (A.front n t b x).lv c k = if c = 1 ∧ k = A.la 1 + 1 then true else A.lv c k := by
  show up2 A.lv 1 (A.la 1 + 1) true c k = _
  rfl
theorem Ch.front (hok : A.ok) {l : List Nat} {y x b : Int} {n : Nat} {t : ByteArray} (hc : Ch A y l) (hy : y ≤ A.la 1) : Ch (A.front n t b x) y l := by
  refine hc.congr hok (fun m hm => ?_) (fun k hk hl => ?_)
  · have h1 := hc.live m hm
    have h2 := hc.le hok m hm
    have hne : m ≠ A.la 1 + 1 := by omega
    rw [front_lv, front_va4, if_neg (fun q => hne q.2), if_neg hne]
    exact ⟨h1, rfl⟩
  · rw [front_lv, if_neg (fun q => by omega)] at hl
    exact hl
theorem Ch.push (hok : A.ok) {l : List Nat} {x b : Int} {n : Nat} {t : ByteArray} (hc : Ch A x l) (hx : x ≤ A.la 1) : Ch (A.front n t b x) ((A.la 1 + 1 : Nat) : Int) ((A.la 1 + 1) :: l) := by
  refine ⟨rfl, by rw [front_lv, if_pos ⟨rfl, rfl⟩], ?_⟩
  rw [front_va4, if_pos rfl]
  exact hc.front hok hx
/-- What Push makes of it. -/
theorem swap_front {n : Nat} {t : ByteArray} {b x : Int} (h : A.va 0 n = x) : (A.ver t b x).swap 0 n x ((A.la 1 + 1 : Nat) : Int) = A.front n t b x := by
  unfold Stt.swap Stt.front
  rw [if_pos]
  show up2 (up2 (up2 A.va 2 (A.la 1 + 1) b) 3 (A.la 1 + 1) 1099511627776) 4 (A.la 1 + 1) x 0 n = x
  rw [up2_other _ _ (fun q => by omega), up2_other _ _ (fun q => by omega), up2_other _ _ (fun q => by omega)]
  exact h
theorem ver_va0 {n : Nat} {t : ByteArray} {b x : Int} : (A.ver t b x).va 0 n = A.va 0 n := by
  show up2 (up2 (up2 A.va 2 (A.la 1 + 1) b) 3 (A.la 1 + 1) 1099511627776) 4 (A.la 1 + 1) x 0 n = _
  rw [up2_other _ _ (fun q => by omega), up2_other _ _ (fun q => by omega), up2_other _ _ (fun q => by omega)]
theorem ver_lv1 {k : Nat} {t : ByteArray} {b x : Int} : (A.ver t b x).lv 1 k = if k = A.la 1 + 1 then true else A.lv 1 k := by
  show up2 A.lv 1 (A.la 1 + 1) true 1 k = _
  unfold up2
  by_cases e : k = A.la 1 + 1
  · simp [e]
  · simp [e]

/-- Version and Push, one behind the other, whatever the chain. -/
structure Frt (A : Stt) (n : Nat) (x : Int) (l : List Nat) : Prop where
  ch : Ch A x l
  hd : A.va 0 n = x
  lv : A.lv 0 n = true
  xn : x = 0 ∨ ∃ y : Nat, x = (y : Int) ∧ A.lv 1 y = true ∧ 1 ≤ y
theorem Frt.le (hok : A.ok) {n : Nat} {x : Int} {l : List Nat} (h : Frt A n x l) : 0 ≤ x ∧ x ≤ A.la 1 := by
  rcases h.xn with e | ⟨y, e, hy, _⟩
  · omega
  · have := hok.n1 1 y hy; omega
theorem ver_any {t : ByteArray} {b x : Int} {n : Nat} {l : List Nat} (h : Rp w K sb d z M A u) (hf : Frt A n x l) (ht : t.size ≤ 64) (hb : 0 ≤ b ∧ b ≤ 18446744073709551615) (hmb : mbg b = true) (hla : A.la 1 < 1000000) (hroom : u + 3 ≤ z) (hM : M < 3800000000000000000) :
    Calls Tryd.prog 11 #[.pointer (some ⟨sb, 0, none⟩), .string t, .int .u64 b, .int .i64 x] w fun e w' => e = .returned (.tuple #[.int .i64 ((A.la 1 + 1 : Nat) : Int), .int .i64 0]) ∧ Aft w w' K sb d z (M + 4) (A.ver t b x) (u + 3) := by
  rcases hf.xn with rfl | ⟨y, rfl, hy, _⟩
  · exact ver_zero h ht hb hmb hla hroom (by omega)
  · exact ver_next h ht hb hmb hy hla hroom (by omega)
theorem push_any {t : ByteArray} {b x : Int} {n : Nat} {l : List Nat} (h : Rp w K sb d z M (A.ver t b x) u) (hf : Frt A n x l) (hM : M < 3800000000000000000) :
    Calls Tryd.prog 12 #[.pointer (some ⟨sb, 0, none⟩), .int .i64 (n : Int), .int .i64 x, .int .i64 ((A.la 1 + 1 : Nat) : Int)] w fun e w' => e = .returned (.tuple #[.bool true, .int .i64 0]) ∧ Aft w w' K sb d z (M + 1) (A.front n t b x) u := by
  have hnow : (A.ver t b x).lv 1 (A.la 1 + 1) = true := by rw [ver_lv1, if_pos rfl]
  have hn : (A.ver t b x).lv 0 n = true := by rw [ver_lv (by decide)]; exact hf.lv
  have hv : (A.ver t b x).va 0 n = x := ver_va0.trans hf.hd
  have hd : decide ((A.ver t b x).va 0 n = x) = true := by rw [hv]; simp
  have key : ∀ e w', (e = Ending.returned (.tuple #[.bool (decide ((A.ver t b x).va 0 n = x)), .int .i64 0]) ∧ Aft w w' K sb d z (M + 1) ((A.ver t b x).swap 0 n x ((A.la 1 + 1 : Nat) : Int)) u) → e = .returned (.tuple #[.bool true, .int .i64 0]) ∧ Aft w w' K sb d z (M + 1) (A.front n t b x) u := by
    rintro e w' ⟨rfl, a⟩
    rw [hd]
    rw [swap_front hf.hd] at a
    exact ⟨rfl, a⟩
  rcases hf.xn with hx | ⟨y, hx, hy, _⟩
  · subst hx
    exact (push_zero h hn hnow (by omega)).mono key
  · subst hx
    have hy2 : (A.ver t b (y : Int)).lv 1 y = true := by
      rw [ver_lv1]
      split
      · rfl
      · exact hy
    exact (push_old h hn hnow hy2 (by omega)).mono key
theorem Frt.front (hok : A.ok) {t : ByteArray} {b x : Int} {n : Nat} {l : List Nat} (h : Frt A n x l) : Frt (A.front n t b x) n ((A.la 1 + 1 : Nat) : Int) ((A.la 1 + 1) :: l) :=
  ⟨h.ch.push hok (h.le hok).2, by rw [front_va0, if_pos rfl], by rw [front_lv, if_neg (fun q => by omega)]; exact h.lv, .inr ⟨_, rfl, by rw [front_lv, if_pos ⟨rfl, rfl⟩], by omega⟩⟩
end
end Go.Proofs.YtohgjpljobmpaaaDoor
