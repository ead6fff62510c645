/-
  The store without memory: something is made, something is taken away.
-/
import Derived.Test.YtfhcphgjaobnoaaDoorTa6
set_option linter.unusedVariables false
set_option linter.unusedSimpArgs false
namespace Go.Proofs.YtfhcphgjaobnoaaDoor
open Go.RowKit Go.Maps

section
variable {A : Stt} {T : List Bool} {N N' : List Int} {own : Nat → Option (Nat × Nat)} {pl : Nat → Nat → Nat}
theorem ge6 (k : Nat) : ¬ (k + 1 + 1 + 1 + 1 + 1 + 1 < 6) := by omega
theorem lvk_node (A : Stt) (k n : Nat) : lvk A.node k n = up2 (up2 (lvk A) 0 (A.la 0 + 1) true) 1 (A.la 0 + 1) true k n := by
  unfold lvk Stt.node up2
  rcases k with _ | _ | _ | _ | _ | _ | k <;> by_cases e : n = A.la 0 + 1 <;> simp [cls, e, ge6]
theorem lvk_ver (A : Stt) (t : ByteArray) (b x : Int) (k n : Nat) : lvk (A.ver t b x) k n = up2 (up2 (up2 (lvk A) 2 (A.la 1 + 1) true) 3 (A.la 1 + 1) true) 4 (A.la 1 + 1) true k n := by
  unfold lvk Stt.ver up2
  rcases k with _ | _ | _ | _ | _ | _ | k <;> by_cases e : n = A.la 1 + 1 <;> simp [cls, e, ge6]
theorem lvk_txn (A : Stt) (k n : Nat) : lvk A.txn k n = up2 (lvk A) 5 (A.la 2 + 1) true k n := by
  unfold lvk Stt.txn up2
  rcases k with _ | _ | _ | _ | _ | _ | k <;> by_cases e : n = A.la 2 + 1 <;> simp [cls, e, ge6]
theorem lvk_off1 (A : Stt) (n0 k n : Nat) : lvk (A.off 1 n0) k n = up2 (up2 (up2 (lvk A) 2 n0 false) 3 n0 false) 4 n0 false k n := by
  unfold lvk Stt.off up2
  rcases k with _ | _ | _ | _ | _ | _ | k <;> by_cases e : n = n0 <;> simp [cls, e, ge6]
theorem lvk_off2 (A : Stt) (n0 k n : Nat) : lvk (A.off 2 n0) k n = up2 (lvk A) 5 n0 false k n := by
  unfold lvk Stt.off up2
  rcases k with _ | _ | _ | _ | _ | _ | k <;> by_cases e : n = n0 <;> simp [cls, e, ge6]
theorem lvk_new (h : A.ok) {k c : Nat} (hc : cls k = c) : lvk A k (A.la c + 1) = false := by
  unfold lvk
  cases hl : A.lv (cls k) (A.la c + 1) with
  | false => simp
  | true => have := h.n1 _ _ hl; rw [hc] at this; omega
theorem up1_le (f : Nat → Nat) (c : Nat) : ∀ c', f c' ≤ up1 f c (f c + 1) c' := fun c' => by
  unfold up1
  by_cases e : c' = c
  · rw [if_pos e, e]; omega
  · rw [if_neg e]; exact Nat.le_refl _
theorem Stt.node_ok (h : A.ok) : A.node.ok := by
  have hle := up1_le A.la 0
  refine ⟨fun c n hl => ?_, fun n h1 h2 => ?_, fun k n hk hl => ?_, fun n hl => ?_, fun n hl => ?_, h.ts⟩
  · show 1 ≤ n ∧ n ≤ up1 A.la 0 (A.la 0 + 1) c
    by_cases e : c = 0 ∧ n = A.la 0 + 1
    · rw [e.1, e.2, up1_same]; omega
    · have := h.n1 c n (by rw [← up2_other A.lv true e]; exact hl)
      have := hle c
      omega
  · show up2 A.lv 0 (A.la 0 + 1) true 0 n = true
    have h2' : n ≤ up1 A.la 0 (A.la 0 + 1) 0 := h2
    rw [up1_same] at h2'
    by_cases e : n = A.la 0 + 1
    · rw [e, up2_same]
    · rw [up2_other _ _ (fun q => e q.2)]; exact h.nd n h1 (by omega)
  · show 0 ≤ up2 (up2 A.va 0 (A.la 0 + 1) 0) 1 (A.la 0 + 1) 0 k n ∧ up2 (up2 A.va 0 (A.la 0 + 1) 0) 1 (A.la 0 + 1) 0 k n ≤ _
    by_cases e1 : k = 1 ∧ n = A.la 0 + 1
    · rw [e1.1, e1.2, up2_same]; decide
    · rw [up2_other _ _ e1]
      by_cases e2 : k = 0 ∧ n = A.la 0 + 1
      · rw [e2.1, e2.2, up2_same]; decide
      · rw [up2_other _ _ e2]
        by_cases e3 : cls k = 0 ∧ n = A.la 0 + 1
        · exfalso
          have : k < 2 := by have := e3.1; unfold cls at this; split at this <;> simp_all; split at this <;> simp_all
          omega
        · exact h.bd k n hk (by rw [← up2_other A.lv true e3]; exact hl)
  · show up2 (up2 A.va 0 (A.la 0 + 1) 0) 1 (A.la 0 + 1) 0 0 n ≤ (up1 A.la 0 (A.la 0 + 1) 1 : Nat)
    rw [up1_other _ _ (by decide), up2_other _ _ (fun q => by omega)]
    by_cases e2 : n = A.la 0 + 1
    · rw [e2, up2_same]; omega
    · rw [up2_other _ _ (fun q => e2 q.2)]
      exact h.hd n (by rw [← up2_other A.lv true (fun q => e2 q.2)]; exact hl)
  · show up2 (up2 A.va 0 (A.la 0 + 1) 0) 1 (A.la 0 + 1) 0 4 n < _
    rw [up2_other _ _ (fun q => by omega), up2_other _ _ (fun q => by omega)]
    exact h.nx n (by rw [← up2_other A.lv true (k := 0) (n := A.la 0 + 1) (fun q => by omega)]; exact hl)
theorem Stt.ver_ok {t : ByteArray} {b x : Int} (h : A.ok) (ht : t.size ≤ 64) (hb : 0 ≤ b ∧ b ≤ 18446744073709551615) (hx : 0 ≤ x ∧ x ≤ A.la 1) (hx2 : x ≤ 18446744073709551615) : (A.ver t b x).ok := by
  have hle := up1_le A.la 1
  have hoth : ∀ c n, ¬ (c = 1 ∧ n = A.la 1 + 1) → (A.ver t b x).lv c n = true → A.lv c n = true := fun c n e hl => by rw [← up2_other A.lv true e]; exact hl
  refine ⟨fun c n hl => ?_, fun n h1 h2 => ?_, fun k n hk hl => ?_, fun n hl => ?_, fun n hl => ?_, fun n => ?_⟩
  · show 1 ≤ n ∧ n ≤ up1 A.la 1 (A.la 1 + 1) c
    by_cases e : c = 1 ∧ n = A.la 1 + 1
    · rw [e.1, e.2, up1_same]; omega
    · have := h.n1 c n (hoth c n e hl)
      have := hle c
      omega
  · show up2 A.lv 1 (A.la 1 + 1) true 0 n = true
    have h2' : n ≤ up1 A.la 1 (A.la 1 + 1) 0 := h2
    rw [up1_other _ _ (by decide)] at h2'
    rw [up2_other _ _ (fun q => by omega)]; exact h.nd n h1 h2'
  · show 0 ≤ up2 (up2 (up2 A.va 2 (A.la 1 + 1) b) 3 (A.la 1 + 1) 1099511627776) 4 (A.la 1 + 1) x k n ∧ up2 (up2 (up2 A.va 2 (A.la 1 + 1) b) 3 (A.la 1 + 1) 1099511627776) 4 (A.la 1 + 1) x k n ≤ _
    by_cases e4 : k = 4 ∧ n = A.la 1 + 1
    · rw [e4.1, e4.2, up2_same]; exact ⟨hx.1, hx2⟩
    · rw [up2_other _ _ e4]
      by_cases e3 : k = 3 ∧ n = A.la 1 + 1
      · rw [e3.1, e3.2, up2_same]; decide
      · rw [up2_other _ _ e3]
        by_cases e2 : k = 2 ∧ n = A.la 1 + 1
        · rw [e2.1, e2.2, up2_same]; exact hb
        · rw [up2_other _ _ e2]
          by_cases e1 : cls k = 1 ∧ n = A.la 1 + 1
          · exfalso
            have : 2 ≤ k ∧ k < 5 := by
              have := e1.1; unfold cls at this
              by_cases a1 : k < 2
              · rw [if_pos a1] at this; omega
              · rw [if_neg a1] at this
                by_cases a2 : k < 5
                · omega
                · rw [if_neg a2] at this; omega
            omega
          · exact h.bd k n hk (hoth _ n e1 hl)
  · show up2 (up2 (up2 A.va 2 (A.la 1 + 1) b) 3 (A.la 1 + 1) 1099511627776) 4 (A.la 1 + 1) x 0 n ≤ (up1 A.la 1 (A.la 1 + 1) 1 : Nat)
    rw [up1_same, up2_other _ _ (fun q => by omega), up2_other _ _ (fun q => by omega), up2_other _ _ (fun q => by omega)]
    have := h.hd n (hoth 0 n (fun q => by omega) hl)
    omega
  · show up2 (up2 (up2 A.va 2 (A.la 1 + 1) b) 3 (A.la 1 + 1) 1099511627776) 4 (A.la 1 + 1) x 4 n < _
    by_cases e : n = A.la 1 + 1
    · rw [e, up2_same]; omega
    · rw [up2_other _ _ (fun q => e q.2), up2_other _ _ (fun q => by omega), up2_other _ _ (fun q => by omega)]
      exact h.nx n (hoth 1 n (fun q => e q.2) hl)
  · show (up1 A.tx (A.la 1 + 1) t n).size ≤ 64
    by_cases e : n = A.la 1 + 1
    · rw [e, up1_same]; exact ht
    · rw [up1_other _ _ e]; exact h.ts n
theorem Stt.txn_ok (h : A.ok) : A.txn.ok := by
  have hle := up1_le A.la 2
  have hoth : ∀ c n, ¬ (c = 2 ∧ n = A.la 2 + 1) → A.txn.lv c n = true → A.lv c n = true := fun c n e hl => by rw [← up2_other A.lv true e]; exact hl
  refine ⟨fun c n hl => ?_, fun n h1 h2 => ?_, fun k n hk hl => ?_, fun n hl => ?_, fun n hl => ?_, h.ts⟩
  · show 1 ≤ n ∧ n ≤ up1 A.la 2 (A.la 2 + 1) c
    by_cases e : c = 2 ∧ n = A.la 2 + 1
    · rw [e.1, e.2, up1_same]; omega
    · have := h.n1 c n (hoth c n e hl)
      have := hle c
      omega
  · show up2 A.lv 2 (A.la 2 + 1) true 0 n = true
    have h2' : n ≤ up1 A.la 2 (A.la 2 + 1) 0 := h2
    rw [up1_other _ _ (by decide)] at h2'
    rw [up2_other _ _ (fun q => by omega)]; exact h.nd n h1 h2'
  · show 0 ≤ up2 A.va 5 (A.la 2 + 1) 0 k n ∧ up2 A.va 5 (A.la 2 + 1) 0 k n ≤ _
    by_cases e5 : k = 5 ∧ n = A.la 2 + 1
    · rw [e5.1, e5.2, up2_same]; decide
    · rw [up2_other _ _ e5]
      by_cases e1 : cls k = 2 ∧ n = A.la 2 + 1
      · exfalso
        have : k = 5 := by
          have := e1.1; unfold cls at this
          by_cases a1 : k < 2
          · rw [if_pos a1] at this; omega
          · rw [if_neg a1] at this
            by_cases a2 : k < 5
            · rw [if_pos a2] at this; omega
            · omega
        omega
      · exact h.bd k n hk (hoth _ n e1 hl)
  · show up2 A.va 5 (A.la 2 + 1) 0 0 n ≤ (up1 A.la 2 (A.la 2 + 1) 1 : Nat)
    rw [up1_other _ _ (by decide), up2_other _ _ (fun q => by omega)]
    exact h.hd n (hoth 0 n (fun q => by omega) hl)
  · show up2 A.va 5 (A.la 2 + 1) 0 4 n < _
    rw [up2_other _ _ (fun q => by omega)]
    exact h.nx n (hoth 1 n (fun q => by omega) hl)
theorem Stt.off_ok {c n : Nat} (h : A.ok) (hc : c ≠ 0) : (A.off c n).ok := by
  have hoth : ∀ c' n', (A.off c n).lv c' n' = true → A.lv c' n' = true := fun c' n' hl => by
    by_cases e : c' = c ∧ n' = n
    · rw [show (A.off c n).lv c' n' = up2 A.lv c n false c' n' from rfl, e.1, e.2, up2_same] at hl; cases hl
    · rw [← up2_other A.lv false e]; exact hl
  refine ⟨fun c' n' hl => h.n1 c' n' (hoth c' n' hl), fun n' h1 h2 => ?_, fun k n' hk hl => h.bd k n' hk (hoth _ n' hl), fun n' hl => h.hd n' (hoth 0 n' hl), fun n' hl => h.nx n' (hoth 1 n' hl), h.ts⟩
  show up2 A.lv c n false 0 n' = true
  rw [up2_other _ _ (fun q => hc q.1.symm)]
  exact h.nd n' h1 h2

/-- The cells of what is made. -/
def plN (A : Stt) (pl : Nat → Nat → Nat) (c0 c1 : Nat) : Nat → Nat → Nat := up2 (up2 pl 0 (A.la 0 + 1) c0) 1 (A.la 0 + 1) c1
def plV (A : Stt) (pl : Nat → Nat → Nat) (c0 c1 c2 : Nat) : Nat → Nat → Nat := up2 (up2 (up2 pl 2 (A.la 1 + 1) c0) 3 (A.la 1 + 1) c1) 4 (A.la 1 + 1) c2
def plT (A : Stt) (pl : Nat → Nat → Nat) (c0 : Nat) : Nat → Nat → Nat := up2 pl 5 (A.la 2 + 1) c0
theorem set_free {T : List Bool} {c c' : Nat} (h : T.getD c' true = false) (hne : c ≠ c') : (T.set c true).getD c' true = false := by
  rw [getD_set, if_neg (fun q => hne q.1.symm)]; exact h
theorem Plc.node (h : Plc (lvk A) A.va T N own pl) (hok : A.ok) {c0 c1 : Nat} (hf : Fresh T [c0, c1]) (h0 : N'.getD c0 0 = 0) (h1 : N'.getD c1 0 = 0) (hN : ∀ c, c ∉ [c0, c1] → N'.getD c 0 = N.getD c 0) :
    ∃ own', Plc (lvk A.node) A.node.va (tset T [c0, c1]) N' own' (plN A pl c0 c1) := by
  have f0 := hf.2 c0 (by simp)
  have f1 := hf.2 c1 (by simp)
  have hne : c0 ≠ c1 := by have := hf.1; simp at this; exact this
  have a := h.cells (N' := N') (fun c hc => hN c (fun q => by
    have := hf.2 c q
    have hl := getD_lt hc
    simp only [List.getD, List.getElem?_eq_getElem hl] at this hc
    simp only [Option.getD_some] at this hc
    rw [this] at hc; cases hc))
  have b := a.add (k := 0) (n := A.la 0 + 1) (lvk_new hok rfl) f0 h0
  have c := b.add (k := 1) (n := A.la 0 + 1) (by rw [up2_other _ _ (fun q => by omega)]; exact lvk_new hok rfl) (set_free f1 hne) h1
  exact ⟨_, c.congr (lvk_node A) (fun _ _ _ => rfl)⟩
theorem Plc.ver (h : Plc (lvk A) A.va T N own pl) (hok : A.ok) {t : ByteArray} {b x : Int} {c0 c1 c2 : Nat} (hf : Fresh T [c0, c1, c2]) (h0 : N'.getD c0 0 = b) (h1 : N'.getD c1 0 = 1099511627776) (h2 : N'.getD c2 0 = x) (hN : ∀ c, c ∉ [c0, c1, c2] → N'.getD c 0 = N.getD c 0) :
    ∃ own', Plc (lvk (A.ver t b x)) (A.ver t b x).va (tset T [c0, c1, c2]) N' own' (plV A pl c0 c1 c2) := by
  have f0 := hf.2 c0 (by simp)
  have f1 := hf.2 c1 (by simp)
  have f2 := hf.2 c2 (by simp)
  have hnd : c0 ≠ c1 ∧ c0 ≠ c2 ∧ c1 ≠ c2 := by have := hf.1; simp at this; exact ⟨this.1.1, this.1.2, this.2⟩
  have a := h.cells (N' := N') (fun c hc => hN c (fun q => by
    have := hf.2 c q
    have hl := getD_lt hc
    simp only [List.getD, List.getElem?_eq_getElem hl] at this hc
    simp only [Option.getD_some] at this hc
    rw [this] at hc; cases hc))
  have b' := a.add (k := 2) (n := A.la 1 + 1) (lvk_new hok rfl) f0 h0
  have c := b'.add (k := 3) (n := A.la 1 + 1) (by rw [up2_other _ _ (fun q => by omega)]; exact lvk_new hok rfl) (set_free f1 hnd.1) h1
  have e := c.add (k := 4) (n := A.la 1 + 1) (by rw [up2_other _ _ (fun q => by omega), up2_other _ _ (fun q => by omega)]; exact lvk_new hok rfl) (set_free (set_free f2 hnd.2.1) hnd.2.2) h2
  exact ⟨_, e.congr (lvk_ver A t b x) (fun _ _ _ => rfl)⟩
theorem Plc.txn (h : Plc (lvk A) A.va T N own pl) (hok : A.ok) {c0 : Nat} (hf : Fresh T [c0]) (h0 : N'.getD c0 0 = 0) (hN : ∀ c, c ∉ [c0] → N'.getD c 0 = N.getD c 0) :
    ∃ own', Plc (lvk A.txn) A.txn.va (tset T [c0]) N' own' (plT A pl c0) := by
  have f0 := hf.2 c0 (by simp)
  have a := h.cells (N' := N') (fun c hc => hN c (fun q => by
    have := hf.2 c q
    have hl := getD_lt hc
    simp only [List.getD, List.getElem?_eq_getElem hl] at this hc
    simp only [Option.getD_some] at this hc
    rw [this] at hc; cases hc))
  have b := a.add (k := 5) (n := A.la 2 + 1) (lvk_new hok rfl) f0 h0
  exact ⟨_, b.congr (lvk_txn A) (fun _ _ _ => rfl)⟩
theorem Plc.off1 (h : Plc (lvk A) A.va T N own pl) {n : Nat} (hn : A.lv 1 n = true) : ∃ own', Plc (lvk (A.off 1 n)) (A.off 1 n).va (tclr T [pl 2 n, pl 3 n, pl 4 n]) N own' pl := by
  have a := h.del (k := 2) (n := n) (lvk_of (by decide) hn)
  have b := a.del (k := 3) (n := n) (by rw [up2_other _ _ (fun q => by omega)]; exact lvk_of (by decide) hn)
  have c := b.del (k := 4) (n := n) (by rw [up2_other _ _ (fun q => by omega), up2_other _ _ (fun q => by omega)]; exact lvk_of (by decide) hn)
  exact ⟨_, c.congr (lvk_off1 A n) (fun _ _ _ => rfl)⟩
theorem Plc.off2 (h : Plc (lvk A) A.va T N own pl) {n : Nat} (hn : A.lv 2 n = true) : ∃ own', Plc (lvk (A.off 2 n)) (A.off 2 n).va (tclr T [pl 5 n]) N own' pl := by
  have a := h.del (k := 5) (n := n) (lvk_of (by decide) hn)
  exact ⟨_, a.congr (lvk_off2 A n) (fun _ _ _ => rfl)⟩
end
end Go.Proofs.YtfhcphgjaobnoaaDoor
