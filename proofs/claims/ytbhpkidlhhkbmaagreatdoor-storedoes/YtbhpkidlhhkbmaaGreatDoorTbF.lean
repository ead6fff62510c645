/-
  The document's store: a field is laid; what loads, lays and swaps. (Printed by gen_tbf.py.)
-/
import Derived.Test.YtbhpkidlhhkbmaaGreatDoorTbE
set_option linter.unusedVariables false
set_option linter.unusedSimpArgs false
namespace Go.Proofs.YtbhpkidlhhkbmaaGreatDoor
open Go.RowKit Go.Maps

section
variable {w w' : World} {J : Nat → Prop} {rb : Nat} {vn vv vt : Value} {A : Stt} {fr st : Int}
theorem put_other {k n f i : Nat} {x : Int} (h : ¬ (f = k ∧ i = n)) : (A.put k n x).va f i = A.va f i := by
  show up2 A.va k n x f i = _
  exact up2_other _ _ h
theorem put_same {k n : Nat} {x : Int} : (A.put k n x).va k n = x := by
  show up2 A.va k n x k n = _
  exact up2_same _ _ _ _
theorem off_other {c n c' i : Nat} (h : ¬ (c' = c ∧ i = n)) : (A.off c n).lv c' i = A.lv c' i := by
  show up2 A.lv c n false c' i = _
  exact up2_other _ _ h
theorem off_same {c n : Nat} : (A.off c n).lv c n = false := by
  show up2 A.lv c n false c n = _
  exact up2_same _ _ _ _
theorem Rg.putHead {g cap k : Nat} (h : Rg w J rb (.slice (some ⟨g, 0, none⟩) (A.la 0) cap) vv vt A fr st) (hk : k < A.la 0) {x : Int} (hok : (A.put 0 (k + 1) x).ok) : Rg (w.setCell ⟨g, k * 2 + 0, none⟩ (.int .i64 x)) J rb (.slice (some ⟨g, 0, none⟩) (A.la 0) cap) vv vt (A.put 0 (k + 1) x) fr st := by
  have hF : Fr (fun q => q = g) w (w.setCell ⟨g, k * 2 + 0, none⟩ (.int .i64 x)) := Fr.setCell (p := ⟨g, k * 2 + 0, none⟩) (Fr.refl (fun q => q = g) w) (.inl rfl) _
  obtain ⟨e1, e2, e3⟩ := h.ne
  obtain ⟨a1, a2⟩ := h.ap
  have hg : (Value.slice (some ⟨g, 0, none⟩) (A.la 0) cap).ownBlock = some g := rfl
  refine ⟨(hF.block _ h.lt (fun e => e1 (by rw [e]; exact hg))).trans h.bk, ?_, ?_, ?_, hok, h.la, h.jj, fun q hq => Nat.lt_of_lt_of_le (h.jl q hq) hF.size, h.j0⟩
  · refine h.rn.set hk (by decide) (.int .i64 x) ?_ (fun i' j' hi' hj' hne => ?_)
    · show nF (A.put 0 (k + 1) x) k 0 = _
      simp only [nF]
      rw [put_same]
    · show nF (A.put 0 (k + 1) x) i' j' = nF A i' j'
      have hv : ∀ f', ¬ (f' = 0 ∧ i' = k) → (A.put 0 (k + 1) x).va f' (i' + 1) = A.va f' (i' + 1) := fun f' hf => put_other (fun q => hf ⟨q.1, by omega⟩)
      rcases j' with _ | _ | j2
      · simp only [nF]
        rw [hv 0 (fun q => hne ⟨q.2, rfl⟩)]
      · simp only [nF]
        rw [hv 1 (fun q => by omega)]
      · omega
  · refine (h.rv.fr hF (fun b e z => (a1 g hg).1 (by rw [← z]; exact e))).eqv (fun i' hi' j' hj' => ?_)
    show vF (A.put 0 (k + 1) x) i' j' = vF A i' j'
    rcases j' with _ | _ | _ | _ | _ | j2
    · rfl
    · simp only [vF]
      rw [put_other (fun q => by omega)]
    · simp only [vF]
      rw [put_other (fun q => by omega)]
    · simp only [vF]
      rw [put_other (fun q => by omega)]
    · rfl
    · omega
  · refine (h.rt.fr hF (fun b e z => (a1 g hg).2 (by rw [← z]; exact e))).eqv (fun i' hi' j' hj' => ?_)
    show tF (A.put 0 (k + 1) x) i' j' = tF A i' j'
    rcases j' with _ | _ | j2
    · simp only [tF]
      rw [put_other (fun q => by omega)]
    · rfl
    · omega
theorem Rg.putLock {g cap k : Nat} (h : Rg w J rb (.slice (some ⟨g, 0, none⟩) (A.la 0) cap) vv vt A fr st) (hk : k < A.la 0) {x : Int} (hok : (A.put 1 (k + 1) x).ok) : Rg (w.setCell ⟨g, k * 2 + 1, none⟩ (.int .u64 x)) J rb (.slice (some ⟨g, 0, none⟩) (A.la 0) cap) vv vt (A.put 1 (k + 1) x) fr st := by
  have hF : Fr (fun q => q = g) w (w.setCell ⟨g, k * 2 + 1, none⟩ (.int .u64 x)) := Fr.setCell (p := ⟨g, k * 2 + 1, none⟩) (Fr.refl (fun q => q = g) w) (.inl rfl) _
  obtain ⟨e1, e2, e3⟩ := h.ne
  obtain ⟨a1, a2⟩ := h.ap
  have hg : (Value.slice (some ⟨g, 0, none⟩) (A.la 0) cap).ownBlock = some g := rfl
  refine ⟨(hF.block _ h.lt (fun e => e1 (by rw [e]; exact hg))).trans h.bk, ?_, ?_, ?_, hok, h.la, h.jj, fun q hq => Nat.lt_of_lt_of_le (h.jl q hq) hF.size, h.j0⟩
  · refine h.rn.set hk (by decide) (.int .u64 x) ?_ (fun i' j' hi' hj' hne => ?_)
    · show nF (A.put 1 (k + 1) x) k 1 = _
      simp only [nF]
      rw [put_same]
    · show nF (A.put 1 (k + 1) x) i' j' = nF A i' j'
      have hv : ∀ f', ¬ (f' = 1 ∧ i' = k) → (A.put 1 (k + 1) x).va f' (i' + 1) = A.va f' (i' + 1) := fun f' hf => put_other (fun q => hf ⟨q.1, by omega⟩)
      rcases j' with _ | _ | j2
      · simp only [nF]
        rw [hv 0 (fun q => by omega)]
      · simp only [nF]
        rw [hv 1 (fun q => hne ⟨q.2, rfl⟩)]
      · omega
  · refine (h.rv.fr hF (fun b e z => (a1 g hg).1 (by rw [← z]; exact e))).eqv (fun i' hi' j' hj' => ?_)
    show vF (A.put 1 (k + 1) x) i' j' = vF A i' j'
    rcases j' with _ | _ | _ | _ | _ | j2
    · rfl
    · simp only [vF]
      rw [put_other (fun q => by omega)]
    · simp only [vF]
      rw [put_other (fun q => by omega)]
    · simp only [vF]
      rw [put_other (fun q => by omega)]
    · rfl
    · omega
  · refine (h.rt.fr hF (fun b e z => (a1 g hg).2 (by rw [← z]; exact e))).eqv (fun i' hi' j' hj' => ?_)
    show tF (A.put 1 (k + 1) x) i' j' = tF A i' j'
    rcases j' with _ | _ | j2
    · simp only [tF]
      rw [put_other (fun q => by omega)]
    · rfl
    · omega
theorem Rg.putBegin {g cap k : Nat} (h : Rg w J rb vn (.slice (some ⟨g, 0, none⟩) (A.la 1) cap) vt A fr st) (hk : k < A.la 1) {x : Int} (hok : (A.put 2 (k + 1) x).ok) : Rg (w.setCell ⟨g, k * 5 + 1, none⟩ (.int .u64 x)) J rb vn (.slice (some ⟨g, 0, none⟩) (A.la 1) cap) vt (A.put 2 (k + 1) x) fr st := by
  have hF : Fr (fun q => q = g) w (w.setCell ⟨g, k * 5 + 1, none⟩ (.int .u64 x)) := Fr.setCell (p := ⟨g, k * 5 + 1, none⟩) (Fr.refl (fun q => q = g) w) (.inl rfl) _
  obtain ⟨e1, e2, e3⟩ := h.ne
  obtain ⟨a1, a2⟩ := h.ap
  have hg : (Value.slice (some ⟨g, 0, none⟩) (A.la 1) cap).ownBlock = some g := rfl
  refine ⟨(hF.block _ h.lt (fun e => e2 (by rw [e]; exact hg))).trans h.bk, ?_, ?_, ?_, hok, h.la, h.jj, fun q hq => Nat.lt_of_lt_of_le (h.jl q hq) hF.size, h.j0⟩
  · refine (h.rn.fr hF (fun b e z => (a1 b e).1 (by rw [z]; exact hg))).eqv (fun i' hi' j' hj' => ?_)
    show nF (A.put 2 (k + 1) x) i' j' = nF A i' j'
    rcases j' with _ | _ | j2
    · simp only [nF]
      rw [put_other (fun q => by omega)]
    · simp only [nF]
      rw [put_other (fun q => by omega)]
    · omega
  · refine h.rv.set hk (by decide) (.int .u64 x) ?_ (fun i' j' hi' hj' hne => ?_)
    · show vF (A.put 2 (k + 1) x) k 1 = _
      simp only [vF]
      rw [put_same]
    · show vF (A.put 2 (k + 1) x) i' j' = vF A i' j'
      have hv : ∀ f', ¬ (f' = 2 ∧ i' = k) → (A.put 2 (k + 1) x).va f' (i' + 1) = A.va f' (i' + 1) := fun f' hf => put_other (fun q => hf ⟨q.1, by omega⟩)
      rcases j' with _ | _ | _ | _ | _ | j2
      · rfl
      · simp only [vF]
        rw [hv 2 (fun q => hne ⟨q.2, rfl⟩)]
      · simp only [vF]
        rw [hv 3 (fun q => by omega)]
      · simp only [vF]
        rw [hv 4 (fun q => by omega)]
      · rfl
      · omega
  · refine (h.rt.fr hF (fun b e z => a2 g hg (by rw [← z]; exact e))).eqv (fun i' hi' j' hj' => ?_)
    show tF (A.put 2 (k + 1) x) i' j' = tF A i' j'
    rcases j' with _ | _ | j2
    · simp only [tF]
      rw [put_other (fun q => by omega)]
    · rfl
    · omega
theorem Rg.putEnd {g cap k : Nat} (h : Rg w J rb vn (.slice (some ⟨g, 0, none⟩) (A.la 1) cap) vt A fr st) (hk : k < A.la 1) {x : Int} (hok : (A.put 3 (k + 1) x).ok) : Rg (w.setCell ⟨g, k * 5 + 2, none⟩ (.int .u64 x)) J rb vn (.slice (some ⟨g, 0, none⟩) (A.la 1) cap) vt (A.put 3 (k + 1) x) fr st := by
  have hF : Fr (fun q => q = g) w (w.setCell ⟨g, k * 5 + 2, none⟩ (.int .u64 x)) := Fr.setCell (p := ⟨g, k * 5 + 2, none⟩) (Fr.refl (fun q => q = g) w) (.inl rfl) _
  obtain ⟨e1, e2, e3⟩ := h.ne
  obtain ⟨a1, a2⟩ := h.ap
  have hg : (Value.slice (some ⟨g, 0, none⟩) (A.la 1) cap).ownBlock = some g := rfl
  refine ⟨(hF.block _ h.lt (fun e => e2 (by rw [e]; exact hg))).trans h.bk, ?_, ?_, ?_, hok, h.la, h.jj, fun q hq => Nat.lt_of_lt_of_le (h.jl q hq) hF.size, h.j0⟩
  · refine (h.rn.fr hF (fun b e z => (a1 b e).1 (by rw [z]; exact hg))).eqv (fun i' hi' j' hj' => ?_)
    show nF (A.put 3 (k + 1) x) i' j' = nF A i' j'
    rcases j' with _ | _ | j2
    · simp only [nF]
      rw [put_other (fun q => by omega)]
    · simp only [nF]
      rw [put_other (fun q => by omega)]
    · omega
  · refine h.rv.set hk (by decide) (.int .u64 x) ?_ (fun i' j' hi' hj' hne => ?_)
    · show vF (A.put 3 (k + 1) x) k 2 = _
      simp only [vF]
      rw [put_same]
    · show vF (A.put 3 (k + 1) x) i' j' = vF A i' j'
      have hv : ∀ f', ¬ (f' = 3 ∧ i' = k) → (A.put 3 (k + 1) x).va f' (i' + 1) = A.va f' (i' + 1) := fun f' hf => put_other (fun q => hf ⟨q.1, by omega⟩)
      rcases j' with _ | _ | _ | _ | _ | j2
      · rfl
      · simp only [vF]
        rw [hv 2 (fun q => by omega)]
      · simp only [vF]
        rw [hv 3 (fun q => hne ⟨q.2, rfl⟩)]
      · simp only [vF]
        rw [hv 4 (fun q => by omega)]
      · rfl
      · omega
  · refine (h.rt.fr hF (fun b e z => a2 g hg (by rw [← z]; exact e))).eqv (fun i' hi' j' hj' => ?_)
    show tF (A.put 3 (k + 1) x) i' j' = tF A i' j'
    rcases j' with _ | _ | j2
    · simp only [tF]
      rw [put_other (fun q => by omega)]
    · rfl
    · omega
theorem Rg.putNext {g cap k : Nat} (h : Rg w J rb vn (.slice (some ⟨g, 0, none⟩) (A.la 1) cap) vt A fr st) (hk : k < A.la 1) {x : Int} (hok : (A.put 4 (k + 1) x).ok) : Rg (w.setCell ⟨g, k * 5 + 3, none⟩ (.int .i64 x)) J rb vn (.slice (some ⟨g, 0, none⟩) (A.la 1) cap) vt (A.put 4 (k + 1) x) fr st := by
  have hF : Fr (fun q => q = g) w (w.setCell ⟨g, k * 5 + 3, none⟩ (.int .i64 x)) := Fr.setCell (p := ⟨g, k * 5 + 3, none⟩) (Fr.refl (fun q => q = g) w) (.inl rfl) _
  obtain ⟨e1, e2, e3⟩ := h.ne
  obtain ⟨a1, a2⟩ := h.ap
  have hg : (Value.slice (some ⟨g, 0, none⟩) (A.la 1) cap).ownBlock = some g := rfl
  refine ⟨(hF.block _ h.lt (fun e => e2 (by rw [e]; exact hg))).trans h.bk, ?_, ?_, ?_, hok, h.la, h.jj, fun q hq => Nat.lt_of_lt_of_le (h.jl q hq) hF.size, h.j0⟩
  · refine (h.rn.fr hF (fun b e z => (a1 b e).1 (by rw [z]; exact hg))).eqv (fun i' hi' j' hj' => ?_)
    show nF (A.put 4 (k + 1) x) i' j' = nF A i' j'
    rcases j' with _ | _ | j2
    · simp only [nF]
      rw [put_other (fun q => by omega)]
    · simp only [nF]
      rw [put_other (fun q => by omega)]
    · omega
  · refine h.rv.set hk (by decide) (.int .i64 x) ?_ (fun i' j' hi' hj' hne => ?_)
    · show vF (A.put 4 (k + 1) x) k 3 = _
      simp only [vF]
      rw [put_same]
    · show vF (A.put 4 (k + 1) x) i' j' = vF A i' j'
      have hv : ∀ f', ¬ (f' = 4 ∧ i' = k) → (A.put 4 (k + 1) x).va f' (i' + 1) = A.va f' (i' + 1) := fun f' hf => put_other (fun q => hf ⟨q.1, by omega⟩)
      rcases j' with _ | _ | _ | _ | _ | j2
      · rfl
      · simp only [vF]
        rw [hv 2 (fun q => by omega)]
      · simp only [vF]
        rw [hv 3 (fun q => by omega)]
      · simp only [vF]
        rw [hv 4 (fun q => hne ⟨q.2, rfl⟩)]
      · rfl
      · omega
  · refine (h.rt.fr hF (fun b e z => a2 g hg (by rw [← z]; exact e))).eqv (fun i' hi' j' hj' => ?_)
    show tF (A.put 4 (k + 1) x) i' j' = tF A i' j'
    rcases j' with _ | _ | j2
    · simp only [tF]
      rw [put_other (fun q => by omega)]
    · rfl
    · omega
theorem Rg.goneV {g cap k : Nat} (h : Rg w J rb vn (.slice (some ⟨g, 0, none⟩) (A.la 1) cap) vt A fr st) (hk : k < A.la 1)  : Rg (w.setCell ⟨g, k * 5 + 4, none⟩ (.bool true)) J rb vn (.slice (some ⟨g, 0, none⟩) (A.la 1) cap) vt (A.off 1 (k + 1)) fr st := by
  have hF : Fr (fun q => q = g) w (w.setCell ⟨g, k * 5 + 4, none⟩ (.bool true)) := Fr.setCell (p := ⟨g, k * 5 + 4, none⟩) (Fr.refl (fun q => q = g) w) (.inl rfl) _
  obtain ⟨e1, e2, e3⟩ := h.ne
  obtain ⟨a1, a2⟩ := h.ap
  have hg : (Value.slice (some ⟨g, 0, none⟩) (A.la 1) cap).ownBlock = some g := rfl
  refine ⟨(hF.block _ h.lt (fun e => e2 (by rw [e]; exact hg))).trans h.bk, ?_, ?_, ?_, Stt.off_ok h.ok (by decide), h.la, h.jj, fun q hq => Nat.lt_of_lt_of_le (h.jl q hq) hF.size, h.j0⟩
  · refine (h.rn.fr hF (fun b e z => (a1 b e).1 (by rw [z]; exact hg))).eqv (fun i' hi' j' hj' => ?_)
    show nF (A.off 1 (k + 1)) i' j' = nF A i' j'
    rcases j' with _ | _ | j2
    · rfl
    · rfl
    · omega
  · refine h.rv.set hk (by decide) (.bool true) ?_ (fun i' j' hi' hj' hne => ?_)
    · show vF (A.off 1 (k + 1)) k 4 = _
      simp only [vF]
      rw [off_same]
      rfl
    · show vF (A.off 1 (k + 1)) i' j' = vF A i' j'
      rcases j' with _ | _ | _ | _ | _ | j2
      · rfl
      · rfl
      · rfl
      · rfl
      · simp only [vF]
        have hi2 : i' ≠ k := fun e => hne ⟨e, rfl⟩
        rw [off_other (fun q => hi2 (by omega))]
      · omega
  · refine (h.rt.fr hF (fun b e z => a2 g hg (by rw [← z]; exact e))).eqv (fun i' hi' j' hj' => ?_)
    show tF (A.off 1 (k + 1)) i' j' = tF A i' j'
    rcases j' with _ | _ | j2
    · rfl
    · simp only [tF]
      rw [off_other (fun q => by omega)]
    · omega
theorem Rg.putState {g cap k : Nat} (h : Rg w J rb vn vv (.slice (some ⟨g, 0, none⟩) (A.la 2) cap) A fr st) (hk : k < A.la 2) {x : Int} (hok : (A.put 5 (k + 1) x).ok) : Rg (w.setCell ⟨g, k * 2 + 0, none⟩ (.int .u64 x)) J rb vn vv (.slice (some ⟨g, 0, none⟩) (A.la 2) cap) (A.put 5 (k + 1) x) fr st := by
  have hF : Fr (fun q => q = g) w (w.setCell ⟨g, k * 2 + 0, none⟩ (.int .u64 x)) := Fr.setCell (p := ⟨g, k * 2 + 0, none⟩) (Fr.refl (fun q => q = g) w) (.inl rfl) _
  obtain ⟨e1, e2, e3⟩ := h.ne
  obtain ⟨a1, a2⟩ := h.ap
  have hg : (Value.slice (some ⟨g, 0, none⟩) (A.la 2) cap).ownBlock = some g := rfl
  refine ⟨(hF.block _ h.lt (fun e => e3 (by rw [e]; exact hg))).trans h.bk, ?_, ?_, ?_, hok, h.la, h.jj, fun q hq => Nat.lt_of_lt_of_le (h.jl q hq) hF.size, h.j0⟩
  · refine (h.rn.fr hF (fun b e z => (a1 b e).2 (by rw [z]; exact hg))).eqv (fun i' hi' j' hj' => ?_)
    show nF (A.put 5 (k + 1) x) i' j' = nF A i' j'
    rcases j' with _ | _ | j2
    · simp only [nF]
      rw [put_other (fun q => by omega)]
    · simp only [nF]
      rw [put_other (fun q => by omega)]
    · omega
  · refine (h.rv.fr hF (fun b e z => a2 b e (by rw [z]; exact hg))).eqv (fun i' hi' j' hj' => ?_)
    show vF (A.put 5 (k + 1) x) i' j' = vF A i' j'
    rcases j' with _ | _ | _ | _ | _ | j2
    · rfl
    · simp only [vF]
      rw [put_other (fun q => by omega)]
    · simp only [vF]
      rw [put_other (fun q => by omega)]
    · simp only [vF]
      rw [put_other (fun q => by omega)]
    · rfl
    · omega
  · refine h.rt.set hk (by decide) (.int .u64 x) ?_ (fun i' j' hi' hj' hne => ?_)
    · show tF (A.put 5 (k + 1) x) k 0 = _
      simp only [tF]
      rw [put_same]
    · show tF (A.put 5 (k + 1) x) i' j' = tF A i' j'
      have hv : ∀ f', ¬ (f' = 5 ∧ i' = k) → (A.put 5 (k + 1) x).va f' (i' + 1) = A.va f' (i' + 1) := fun f' hf => put_other (fun q => hf ⟨q.1, by omega⟩)
      rcases j' with _ | _ | j2
      · simp only [tF]
        rw [hv 5 (fun q => hne ⟨q.2, rfl⟩)]
      · rfl
      · omega
theorem Rg.goneT {g cap k : Nat} (h : Rg w J rb vn vv (.slice (some ⟨g, 0, none⟩) (A.la 2) cap) A fr st) (hk : k < A.la 2)  : Rg (w.setCell ⟨g, k * 2 + 1, none⟩ (.bool true)) J rb vn vv (.slice (some ⟨g, 0, none⟩) (A.la 2) cap) (A.off 2 (k + 1)) fr st := by
  have hF : Fr (fun q => q = g) w (w.setCell ⟨g, k * 2 + 1, none⟩ (.bool true)) := Fr.setCell (p := ⟨g, k * 2 + 1, none⟩) (Fr.refl (fun q => q = g) w) (.inl rfl) _
  obtain ⟨e1, e2, e3⟩ := h.ne
  obtain ⟨a1, a2⟩ := h.ap
  have hg : (Value.slice (some ⟨g, 0, none⟩) (A.la 2) cap).ownBlock = some g := rfl
  refine ⟨(hF.block _ h.lt (fun e => e3 (by rw [e]; exact hg))).trans h.bk, ?_, ?_, ?_, Stt.off_ok h.ok (by decide), h.la, h.jj, fun q hq => Nat.lt_of_lt_of_le (h.jl q hq) hF.size, h.j0⟩
  · refine (h.rn.fr hF (fun b e z => (a1 b e).2 (by rw [z]; exact hg))).eqv (fun i' hi' j' hj' => ?_)
    show nF (A.off 2 (k + 1)) i' j' = nF A i' j'
    rcases j' with _ | _ | j2
    · rfl
    · rfl
    · omega
  · refine (h.rv.fr hF (fun b e z => a2 b e (by rw [z]; exact hg))).eqv (fun i' hi' j' hj' => ?_)
    show vF (A.off 2 (k + 1)) i' j' = vF A i' j'
    rcases j' with _ | _ | _ | _ | _ | j2
    · rfl
    · rfl
    · rfl
    · rfl
    · simp only [vF]
      rw [off_other (fun q => by omega)]
    · omega
  · refine h.rt.set hk (by decide) (.bool true) ?_ (fun i' j' hi' hj' hne => ?_)
    · show tF (A.off 2 (k + 1)) k 1 = _
      simp only [tF]
      rw [off_same]
      rfl
    · show tF (A.off 2 (k + 1)) i' j' = tF A i' j'
      rcases j' with _ | _ | j2
      · rfl
      · simp only [tF]
        have hi2 : i' ≠ k := fun e => hne ⟨e, rfl⟩
        rw [off_other (fun q => hi2 (by omega))]
      · omega
theorem Rg.fin {A' : Stt} {fr' st' : Int} {vn' vv' vt' : Value} (h : Rg w J rb vn vv vt A fr st) (h' : Rg w' J rb vn' vv' vt' A' fr' st') (hF : Fr J w w') : Raf w w' J rb A' fr' st' := ⟨J, ⟨_, _, _, h'⟩, fun _ _ => Iff.rfl, hF⟩
set_option maxRecDepth 100000 in
set_option maxHeartbeats 4000000 in
theorem rHead_in (h : Rf w J rb A fr st) {k : Nat} (hl : A.lv 0 (k + 1) = true) (hst : 0 ≤ st ∧ st < 1000000000) :
    Calls Tryz.prog 27 #[.pointer (some ⟨rb, 0, none⟩), .int .i64 ((k : Int) + 1)] w fun e w' => e = .returned (.tuple #[.int .i64 (A.va 0 (k + 1)), .int .i64 0]) ∧ Raf w w' J rb A fr (st + 1) := by
  obtain ⟨vn, vv, vt, h⟩ := h
  have hnb := h.ok.n1 0 (k + 1) hl
  have hla := h.la 0
  have hsm := rnode_any h ((k : Int) + 1)
  rw [lvI_at, hl] at hsm
  have HSM := hide2 hsm
  obtain ⟨g, cp, ev, hc, hfz⟩ := h.rn.at (i := k) (by omega)
  have hgb := h.ne.1
  subst ev
  have hne : g ≠ rb := fun e => hgb (by rw [← e]; rfl)
  have hne2 : rb ≠ g := fun e => hne e.symm
  have q1 : w.cell? ⟨g, k * 2, none⟩ = some (.int .i64 (A.va 0 (k + 1))) := hc 0 (by omega)
  obtain ⟨c0, c1, c2, c3, c4⟩ := h.cells
  have f4 := h.free 4
  have d3 : (k : Int) < (A.la 0 : Int) := by omega
  have d4 : ¬ ((k : Int) < 0) := by omega
  have H := hide2 h
  have hrl := h.lt
  clear h hsm hc hfz hgb hl
  go_enter Tryz.func27, Tryz.ntmps27
  go_wp2_with fail
  refine HSM.out.mono ?_
  rintro e w1 ⟨rfl, q⟩
  subst q
  clear HSM
  go_wp2
  go_ret2
  exact ⟨rfl, H.out.fin (H.out.step (st + 1)) (Fr.setCell (p := ⟨rb, 4, none⟩) (Fr.refl J w1) (.inl (H.out.jj rb (.inl rfl))) _)⟩
set_option maxRecDepth 100000 in
set_option maxHeartbeats 4000000 in
theorem HeadR_out (h : Rf w J rb A fr st) {n : Int} (hl : lvI A 0 n = false) :
    Calls Tryz.prog 27 #[.pointer (some ⟨rb, 0, none⟩), .int .i64 n] w fun e w' => e = .returned (.tuple #[.int .i64 0, .int .i64 110]) ∧ w' = w := by
  obtain ⟨vn, vv, vt, h⟩ := h
  have hsm := rnode_any h n
  rw [hl] at hsm
  have HSM := hide2 hsm
  clear h hsm hl
  go_enter Tryz.func27, Tryz.ntmps27
  go_wp2_with fail
  refine HSM.out.mono ?_
  rintro e w1 ⟨rfl, q⟩
  subst q
  clear HSM
  go_wp2
  go_ret2
  exact ⟨rfl, rfl⟩
set_option maxRecDepth 100000 in
set_option maxHeartbeats 4000000 in
theorem rLock_in (h : Rf w J rb A fr st) {k : Nat} (hl : A.lv 0 (k + 1) = true) (hst : 0 ≤ st ∧ st < 1000000000) :
    Calls Tryz.prog 40 #[.pointer (some ⟨rb, 0, none⟩), .int .i64 ((k : Int) + 1)] w fun e w' => e = .returned (.tuple #[.int .u64 (A.va 1 (k + 1)), .int .i64 0]) ∧ Raf w w' J rb A fr (st + 1) := by
  obtain ⟨vn, vv, vt, h⟩ := h
  have hnb := h.ok.n1 0 (k + 1) hl
  have hla := h.la 0
  have hsm := rnode_any h ((k : Int) + 1)
  rw [lvI_at, hl] at hsm
  have HSM := hide2 hsm
  obtain ⟨g, cp, ev, hc, hfz⟩ := h.rn.at (i := k) (by omega)
  have hgb := h.ne.1
  subst ev
  have hne : g ≠ rb := fun e => hgb (by rw [← e]; rfl)
  have hne2 : rb ≠ g := fun e => hne e.symm
  have q1 : w.cell? ⟨g, k * 2 + 1, none⟩ = some (.int .u64 (A.va 1 (k + 1))) := hc 1 (by omega)
  obtain ⟨c0, c1, c2, c3, c4⟩ := h.cells
  have f4 := h.free 4
  have d3 : (k : Int) < (A.la 0 : Int) := by omega
  have d4 : ¬ ((k : Int) < 0) := by omega
  have H := hide2 h
  have hrl := h.lt
  clear h hsm hc hfz hgb hl
  go_enter Tryz.func40, Tryz.ntmps40
  go_wp2_with fail
  refine HSM.out.mono ?_
  rintro e w1 ⟨rfl, q⟩
  subst q
  clear HSM
  go_wp2
  go_ret2
  exact ⟨rfl, H.out.fin (H.out.step (st + 1)) (Fr.setCell (p := ⟨rb, 4, none⟩) (Fr.refl J w1) (.inl (H.out.jj rb (.inl rfl))) _)⟩
set_option maxRecDepth 100000 in
set_option maxHeartbeats 4000000 in
theorem LockR_out (h : Rf w J rb A fr st) {n : Int} (hl : lvI A 0 n = false) :
    Calls Tryz.prog 40 #[.pointer (some ⟨rb, 0, none⟩), .int .i64 n] w fun e w' => e = .returned (.tuple #[.int .u64 0, .int .i64 110]) ∧ w' = w := by
  obtain ⟨vn, vv, vt, h⟩ := h
  have hsm := rnode_any h n
  rw [hl] at hsm
  have HSM := hide2 hsm
  clear h hsm hl
  go_enter Tryz.func40, Tryz.ntmps40
  go_wp2_with fail
  refine HSM.out.mono ?_
  rintro e w1 ⟨rfl, q⟩
  subst q
  clear HSM
  go_wp2
  go_ret2
  exact ⟨rfl, rfl⟩
set_option maxRecDepth 100000 in
set_option maxHeartbeats 4000000 in
theorem rState_in (h : Rf w J rb A fr st) {k : Nat} (hl : A.lv 2 (k + 1) = true) (hst : 0 ≤ st ∧ st < 1000000000) :
    Calls Tryz.prog 38 #[.pointer (some ⟨rb, 0, none⟩), .int .i64 ((k : Int) + 1)] w fun e w' => e = .returned (.tuple #[.int .u64 (A.va 5 (k + 1)), .int .i64 0]) ∧ Raf w w' J rb A fr (st + 1) := by
  obtain ⟨vn, vv, vt, h⟩ := h
  have hnb := h.ok.n1 2 (k + 1) hl
  have hla := h.la 2
  have hsm := rtxn_any h ((k : Int) + 1)
  rw [lvI_at, hl] at hsm
  have HSM := hide2 hsm
  obtain ⟨g, cp, ev, hc, hfz⟩ := h.rt.at (i := k) (by omega)
  have hgb := h.ne.2.2
  subst ev
  have hne : g ≠ rb := fun e => hgb (by rw [← e]; rfl)
  have hne2 : rb ≠ g := fun e => hne e.symm
  have q1 : w.cell? ⟨g, k * 2, none⟩ = some (.int .u64 (A.va 5 (k + 1))) := hc 0 (by omega)
  obtain ⟨c0, c1, c2, c3, c4⟩ := h.cells
  have f4 := h.free 4
  have d3 : (k : Int) < (A.la 2 : Int) := by omega
  have d4 : ¬ ((k : Int) < 0) := by omega
  have H := hide2 h
  have hrl := h.lt
  clear h hsm hc hfz hgb hl
  go_enter Tryz.func38, Tryz.ntmps38
  go_wp2_with fail
  refine HSM.out.mono ?_
  rintro e w1 ⟨rfl, q⟩
  subst q
  clear HSM
  go_wp2
  go_ret2
  exact ⟨rfl, H.out.fin (H.out.step (st + 1)) (Fr.setCell (p := ⟨rb, 4, none⟩) (Fr.refl J w1) (.inl (H.out.jj rb (.inl rfl))) _)⟩
set_option maxRecDepth 100000 in
set_option maxHeartbeats 4000000 in
theorem StateR_out (h : Rf w J rb A fr st) {n : Int} (hl : lvI A 2 n = false) :
    Calls Tryz.prog 38 #[.pointer (some ⟨rb, 0, none⟩), .int .i64 n] w fun e w' => e = .returned (.tuple #[.int .u64 0, .int .i64 110]) ∧ w' = w := by
  obtain ⟨vn, vv, vt, h⟩ := h
  have hsm := rtxn_any h n
  rw [hl] at hsm
  have HSM := hide2 hsm
  clear h hsm hl
  go_enter Tryz.func38, Tryz.ntmps38
  go_wp2_with fail
  refine HSM.out.mono ?_
  rintro e w1 ⟨rfl, q⟩
  subst q
  clear HSM
  go_wp2
  go_ret2
  exact ⟨rfl, rfl⟩
set_option maxRecDepth 100000 in
set_option maxHeartbeats 4000000 in
theorem rVal_in (h : Rf w J rb A fr st) {k : Nat} (hl : A.lv 1 (k + 1) = true) (hst : 0 ≤ st ∧ st < 1000000000) :
    Calls Tryz.prog 52 #[.pointer (some ⟨rb, 0, none⟩), .int .i64 ((k : Int) + 1)] w fun e w' => e = .returned (.tuple #[.string (A.tx (k + 1)), .int .i64 0]) ∧ Raf w w' J rb A fr st := by
  obtain ⟨vn, vv, vt, h⟩ := h
  have hnb := h.ok.n1 1 (k + 1) hl
  have hla := h.la 1
  have hsm := rversion_any h ((k : Int) + 1)
  rw [lvI_at, hl] at hsm
  have HSM := hide2 hsm
  obtain ⟨g, cp, ev, hc, hfz⟩ := h.rv.at (i := k) (by omega)
  have hgb := h.ne.2.1
  subst ev
  have hne : g ≠ rb := fun e => hgb (by rw [← e]; rfl)
  have hne2 : rb ≠ g := fun e => hne e.symm
  have q1 : w.cell? ⟨g, k * 5, none⟩ = some (.string (A.tx (k + 1))) := hc 0 (by omega)
  obtain ⟨c0, c1, c2, c3, c4⟩ := h.cells
  have f4 := h.free 4
  have d3 : (k : Int) < (A.la 1 : Int) := by omega
  have d4 : ¬ ((k : Int) < 0) := by omega
  have H := hide2 h
  have hrl := h.lt
  clear h hsm hc hfz hgb hl
  go_enter Tryz.func52, Tryz.ntmps52
  go_wp2_with fail
  refine HSM.out.mono ?_
  rintro e w1 ⟨rfl, q⟩
  subst q
  clear HSM
  go_wp2
  go_ret2
  exact ⟨rfl, Raf.same ⟨_, _, _, H.out⟩⟩
set_option maxRecDepth 100000 in
set_option maxHeartbeats 4000000 in
theorem ValR_out (h : Rf w J rb A fr st) {n : Int} (hl : lvI A 1 n = false) :
    Calls Tryz.prog 52 #[.pointer (some ⟨rb, 0, none⟩), .int .i64 n] w fun e w' => e = .returned (.tuple #[.string .empty, .int .i64 110]) ∧ w' = w := by
  obtain ⟨vn, vv, vt, h⟩ := h
  have hsm := rversion_any h n
  rw [hl] at hsm
  have HSM := hide2 hsm
  clear h hsm hl
  go_enter Tryz.func52, Tryz.ntmps52
  go_wp2_with fail
  refine HSM.out.mono ?_
  rintro e w1 ⟨rfl, q⟩
  subst q
  clear HSM
  go_wp2
  go_ret2
  exact ⟨rfl, rfl⟩
set_option maxRecDepth 100000 in
set_option maxHeartbeats 4000000 in
theorem rWord0_in (h : Rf w J rb A fr st) {k : Nat} (hl : A.lv 1 (k + 1) = true) (hst : 0 ≤ st ∧ st < 1000000000) :
    Calls Tryz.prog 36 #[.pointer (some ⟨rb, 0, none⟩), .int .i64 ((k : Int) + 1), .int .i64 0] w fun e w' => e = .returned (.tuple #[.int .u64 (A.va 2 (k + 1)), .int .i64 0]) ∧ Raf w w' J rb A fr (st + 1) := by
  obtain ⟨vn, vv, vt, h⟩ := h
  have hnb := h.ok.n1 1 (k + 1) hl
  have hla := h.la 1
  have hsm := rversion_any h ((k : Int) + 1)
  rw [lvI_at, hl] at hsm
  have HSM := hide2 hsm
  obtain ⟨g, cp, ev, hc, hfz⟩ := h.rv.at (i := k) (by omega)
  have hgb := h.ne.2.1
  subst ev
  have hne : g ≠ rb := fun e => hgb (by rw [← e]; rfl)
  have hne2 : rb ≠ g := fun e => hne e.symm
  have q1 : w.cell? ⟨g, k * 5 + 1, none⟩ = some (.int .u64 (A.va 2 (k + 1))) := hc 1 (by omega)
  have q2 : w.cell? ⟨g, k * 5 + 2, none⟩ = some (.int .u64 (A.va 3 (k + 1))) := hc 2 (by omega)
  have q3 : w.cell? ⟨g, k * 5 + 3, none⟩ = some (.int .i64 (A.va 4 (k + 1))) := hc 3 (by omega)
  have hbd := h.ok.bd 4 (k + 1) (by decide) hl
  have hwr : IntKind.u64.wrap (A.va 4 (k + 1)) = A.va 4 (k + 1) := by rw [IntKind.wrap_u64]; omega
  have hkw : IntKind.i64.wrap (k : Int) = k := by rw [IntKind.wrap_i64]; omega
  obtain ⟨c0, c1, c2, c3, c4⟩ := h.cells
  have f4 := h.free 4
  have d3 : (k : Int) < (A.la 1 : Int) := by omega
  have d4 : ¬ ((k : Int) < 0) := by omega
  have H := hide2 h
  have hrl := h.lt
  clear h hsm hc hfz hgb hl
  go_enter Tryz.func36, Tryz.ntmps36
  go_wp2_with fail
  refine HSM.out.mono ?_
  rintro e w1 ⟨rfl, q⟩
  subst q
  clear HSM
  obtain ⟨W, hW⟩ : ∃ x, x = w1.setCell ⟨rb, 4, none⟩ (.int .i64 (st + 1)) := ⟨_, rfl⟩
  have hFW : Fr (fun j => j = rb) w1 W := by rw [hW]; exact Fr.setCell (p := ⟨rb, 4, none⟩) (Fr.refl (fun j => j = rb) w1) (.inl rfl) _
  have hRW : Rg W J rb vn (.slice (some ⟨g, 0, none⟩) (A.la 1) cp) vt A fr (st + 1) := by rw [hW]; exact H.out.step (st + 1)
  have hgl := (H.out.rv.lt (b := g) rfl).2
  have p1 := hRW.cells.2.1
  have p2 : W.cell? ⟨g, k * 5 + 1, none⟩ = some (.int .u64 (A.va 2 (k + 1))) := (hFW.cell (p := ⟨g, k * 5 + 1, none⟩) hgl hne).trans q1
  have p3 : W.cell? ⟨g, k * 5 + 2, none⟩ = some (.int .u64 (A.va 3 (k + 1))) := (hFW.cell (p := ⟨g, k * 5 + 2, none⟩) hgl hne).trans q2
  have p4 : W.cell? ⟨g, k * 5 + 3, none⟩ = some (.int .i64 (A.va 4 (k + 1))) := (hFW.cell (p := ⟨g, k * 5 + 3, none⟩) hgl hne).trans q3
  have hrW := hRW.lt
  have hgW : g < W.heap.size := by have := hFW.size; omega
  have KEP : Hid (∀ u, Below W.heap.size W u → u.cell? ⟨rb, 1, none⟩ = some (.slice (some ⟨g, 0, none⟩) (A.la 1) cp) ∧ u.cell? ⟨g, k * 5 + 1, none⟩ = some (.int .u64 (A.va 2 (k + 1))) ∧ u.cell? ⟨g, k * 5 + 2, none⟩ = some (.int .u64 (A.va 3 (k + 1))) ∧ u.cell? ⟨g, k * 5 + 3, none⟩ = some (.int .i64 (A.va 4 (k + 1)))) := hide2 (fun u hb => ⟨(hb.cell (p := ⟨rb, 1, none⟩) hrW).trans p1, (hb.cell (p := ⟨g, k * 5 + 1, none⟩) hgW).trans p2, (hb.cell (p := ⟨g, k * 5 + 2, none⟩) hgW).trans p3, (hb.cell (p := ⟨g, k * 5 + 3, none⟩) hgW).trans p4⟩)
  have HRW := hide2 hRW
  have HFW := hide2 hFW
  clear hRW hFW
  go_wp2_with fail
  rw [← hW]
  clear hW q1 q2 q3 c0 c1 c2 c3 c4 f4
  refine wp_region_noPanic ?_
  refine wp_region_held_drew (S := (fun u : World => u.cell? ⟨rb, 1, none⟩ = some (.slice (some ⟨g, 0, none⟩) (A.la 1) cp) ∧ u.cell? ⟨g, k * 5 + 1, none⟩ = some (.int .u64 (A.va 2 (k + 1))) ∧ u.cell? ⟨g, k * 5 + 2, none⟩ = some (.int .u64 (A.va 3 (k + 1))) ∧ u.cell? ⟨g, k * 5 + 3, none⟩ = some (.int .i64 (A.va 4 (k + 1))))) (by kernel_rfl) (⟨p1, p2, p3, p4⟩) (fun hHeld => ?_)
  refine wpAnyH_take (i := 0) (oi := { dst := some 22, op := _, type := _, pos := _, after := _, guard := _ }) (v := ?_) rfl (by kernel_rfl) (by kernel_rfl) (by kernel_rfl) (fun _ _ _ h => h) (Or.inl ⟨by rfl, ?_⟩) (by assumption) ?_
  rotate_left 1
  · intro u hSw; obtain ⟨s1, s2, s3, s4⟩ := hSw; go_simp; try with_reducible rfl
  try simp only [Act.put, List.setIfInBounds_toArray, List.set_cons_zero, List.set_cons_succ]
  refine wpAnyH_take (i := 1) (oi := { dst := some 23, op := _, type := _, pos := _, after := _, guard := _ }) (v := ?_) rfl (by kernel_rfl) (by kernel_rfl) (by kernel_rfl) (fun _ _ _ h => h) (Or.inl ⟨by rfl, ?_⟩) (by assumption) ?_
  rotate_left 1
  · intro u hSw; obtain ⟨s1, s2, s3, s4⟩ := hSw; go_simp; try with_reducible rfl
  try simp only [Act.put, List.setIfInBounds_toArray, List.set_cons_zero, List.set_cons_succ]
  refine wpAnyH_take (i := 2) (oi := { dst := some 24, op := _, type := _, pos := _, after := _, guard := _ }) (v := ?_) rfl (by kernel_rfl) (by kernel_rfl) (by kernel_rfl) (fun _ _ _ h => h) (Or.inl ⟨by rfl, ?_⟩) (by assumption) ?_
  rotate_left 1
  · intro u hSw; obtain ⟨s1, s2, s3, s4⟩ := hSw; go_simp; try with_reducible rfl
  try simp only [Act.put, List.setIfInBounds_toArray, List.set_cons_zero, List.set_cons_succ]
  refine wpAnyH_take (i := 3) (oi := { dst := some 25, op := _, type := _, pos := _, after := _, guard := _ }) (v := ?_) rfl (by kernel_rfl) (by kernel_rfl) (by kernel_rfl) (fun _ _ _ h => h) (Or.inl ⟨by rfl, ?_⟩) (by assumption) ?_
  rotate_left 1
  · intro u hSw; obtain ⟨s1, s2, s3, s4⟩ := hSw; go_simp; try with_reducible rfl
  try simp only [Act.put, List.setIfInBounds_toArray, List.set_cons_zero, List.set_cons_succ]
  refine wpAnyH_take (i := 4) (oi := { dst := some 26, op := _, type := _, pos := _, after := _, guard := _ }) (v := ?_) rfl (by kernel_rfl) (by kernel_rfl) (by kernel_rfl) (fun _ _ _ h => h) (Or.inl ⟨by rfl, ?_⟩) (by assumption) ?_
  rotate_left 1
  · intro u hSw; obtain ⟨s1, s2, s3, s4⟩ := hSw; go_simp; try with_reducible rfl
  try simp only [Act.put, List.setIfInBounds_toArray, List.set_cons_zero, List.set_cons_succ]
  refine wpAnyH_take (i := 5) (oi := { dst := some 27, op := _, type := _, pos := _, after := _, guard := _ }) (v := ?_) rfl (by kernel_rfl) (by kernel_rfl) (by kernel_rfl) (fun _ _ _ h => h) (Or.inl ⟨by rfl, ?_⟩) (by assumption) ?_
  rotate_left 1
  · intro u hSw; obtain ⟨s1, s2, s3, s4⟩ := hSw; go_simp; try with_reducible rfl
  try simp only [Act.put, List.setIfInBounds_toArray, List.set_cons_zero, List.set_cons_succ]
  refine wpAnyH_take (i := 6) (oi := { dst := some 28, op := _, type := _, pos := _, after := _, guard := _ }) (v := ?_) rfl (by kernel_rfl) (by kernel_rfl) (by kernel_rfl) (fun _ _ _ h => h) (Or.inl ⟨by rfl, ?_⟩) (by assumption) ?_
  rotate_left 1
  · intro u hSw; obtain ⟨s1, s2, s3, s4⟩ := hSw; go_simp; try with_reducible rfl
  try simp only [Act.put, List.setIfInBounds_toArray, List.set_cons_zero, List.set_cons_succ]
  refine wpAnyH_take (i := 7) (oi := { dst := some 29, op := _, type := _, pos := _, after := _, guard := _ }) (v := ?_) rfl (by kernel_rfl) (by kernel_rfl) (by kernel_rfl) (fun _ _ _ h => h) (Or.inl ⟨by rfl, ?_⟩) (by assumption) ?_
  rotate_left 1
  · intro u hSw; obtain ⟨s1, s2, s3, s4⟩ := hSw; go_simp; try with_reducible rfl
  try simp only [Act.put, List.setIfInBounds_toArray, List.set_cons_zero, List.set_cons_succ]
  refine wpAnyH_take (i := 8) (oi := { dst := some 30, op := _, type := _, pos := _, after := _, guard := _ }) (v := ?_) rfl (by kernel_rfl) (by kernel_rfl) (by kernel_rfl) (fun _ _ _ h => h) (Or.inl ⟨by rfl, ?_⟩) (by assumption) ?_
  rotate_left 1
  · intro u hSw; obtain ⟨s1, s2, s3, s4⟩ := hSw; go_simp; try with_reducible rfl
  try simp only [Act.put, List.setIfInBounds_toArray, List.set_cons_zero, List.set_cons_succ]
  refine wpAnyH_take (i := 9) (oi := { dst := some 31, op := _, type := _, pos := _, after := _, guard := _ }) (v := ?_) rfl (by kernel_rfl) (by kernel_rfl) (by kernel_rfl) (fun _ _ _ h => h) (Or.inl ⟨by rfl, ?_⟩) (by assumption) ?_
  rotate_left 1
  · intro u hSw; obtain ⟨s1, s2, s3, s4⟩ := hSw; go_simp; try with_reducible rfl
  try simp only [Act.put, List.setIfInBounds_toArray, List.set_cons_zero, List.set_cons_succ]
  refine wpAnyH_take (i := 10) (oi := { dst := some 32, op := _, type := _, pos := _, after := _, guard := _ }) (v := ?_) rfl (by kernel_rfl) (by kernel_rfl) (by kernel_rfl) (fun _ _ _ h => h) (Or.inl ⟨by rfl, ?_⟩) (by assumption) ?_
  rotate_left 1
  · intro u hSw; obtain ⟨s1, s2, s3, s4⟩ := hSw; go_simp; try with_reducible rfl
  try simp only [Act.put, List.setIfInBounds_toArray, List.set_cons_zero, List.set_cons_succ]
  refine wpAnyH_take (i := 11) (oi := { dst := some 33, op := _, type := _, pos := _, after := _, guard := _ }) (v := ?_) rfl (by kernel_rfl) (by kernel_rfl) (by kernel_rfl) (fun _ _ _ h => h) (Or.inl ⟨by rfl, ?_⟩) (by assumption) ?_
  rotate_left 1
  · intro u hSw; obtain ⟨s1, s2, s3, s4⟩ := hSw; go_simp; try with_reducible rfl
  try simp only [Act.put, List.setIfInBounds_toArray, List.set_cons_zero, List.set_cons_succ]
  refine wpAnyH_take (i := 12) (oi := { dst := some 34, op := _, type := _, pos := _, after := _, guard := _ }) (v := ?_) rfl (by kernel_rfl) (by kernel_rfl) (by kernel_rfl) (fun _ _ _ h => h) (Or.inl ⟨by rfl, ?_⟩) (by assumption) ?_
  rotate_left 1
  · intro u hSw; obtain ⟨s1, s2, s3, s4⟩ := hSw; go_simp; try with_reducible rfl
  try simp only [Act.put, List.setIfInBounds_toArray, List.set_cons_zero, List.set_cons_succ]
  refine wpAnyH_take (i := 13) (oi := { dst := some 35, op := _, type := _, pos := _, after := _, guard := _ }) (v := ?_) rfl (by kernel_rfl) (by kernel_rfl) (by kernel_rfl) (fun _ _ _ h => h) (Or.inl ⟨by rfl, ?_⟩) (by assumption) ?_
  rotate_left 1
  · intro u hSw; obtain ⟨s1, s2, s3, s4⟩ := hSw; go_simp; try with_reducible rfl
  try simp only [Act.put, List.setIfInBounds_toArray, List.set_cons_zero, List.set_cons_succ]
  refine wpAnyH_take (i := 14) (oi := { dst := some 36, op := _, type := _, pos := _, after := _, guard := _ }) (v := ?_) rfl (by kernel_rfl) (by kernel_rfl) (by kernel_rfl) (fun _ _ _ h => h) (Or.inl ⟨by rfl, ?_⟩) (by assumption) ?_
  rotate_left 1
  · intro u hSw; obtain ⟨s1, s2, s3, s4⟩ := hSw; go_simp; try with_reducible rfl
  try simp only [Act.put, List.setIfInBounds_toArray, List.set_cons_zero, List.set_cons_succ]
  refine wpAnyH_take (i := 15) (oi := { dst := some 37, op := _, type := _, pos := _, after := _, guard := _ }) (v := ?_) rfl (by kernel_rfl) (by kernel_rfl) (by kernel_rfl) (fun _ _ _ h => h) (Or.inl ⟨by rfl, ?_⟩) (by assumption) ?_
  rotate_left 1
  · intro u hSw; obtain ⟨s1, s2, s3, s4⟩ := hSw; go_simp; try with_reducible rfl
  try simp only [Act.put, List.setIfInBounds_toArray, List.set_cons_zero, List.set_cons_succ]
  refine wpAnyH_take (i := 16) (oi := { dst := some 38, op := _, type := _, pos := _, after := _, guard := _ }) (v := ?_) rfl (by kernel_rfl) (by kernel_rfl) (by kernel_rfl) (fun _ _ _ h => h) (Or.inl ⟨by rfl, ?_⟩) (by assumption) ?_
  rotate_left 1
  · intro u hSw; obtain ⟨s1, s2, s3, s4⟩ := hSw; go_simp; try with_reducible rfl
  try simp only [Act.put, List.setIfInBounds_toArray, List.set_cons_zero, List.set_cons_succ]
  refine wpAnyH_take (i := 17) (oi := { dst := some 39, op := _, type := _, pos := _, after := _, guard := _ }) (v := ?_) rfl (by kernel_rfl) (by kernel_rfl) (by kernel_rfl) (fun _ _ _ h => h) (Or.inl ⟨by rfl, ?_⟩) (by assumption) ?_
  rotate_left 1
  · intro u hSw; obtain ⟨s1, s2, s3, s4⟩ := hSw; go_simp; try with_reducible rfl
  try simp only [Act.put, List.setIfInBounds_toArray, List.set_cons_zero, List.set_cons_succ]
  refine wpAnyH_take (i := 18) (oi := { dst := some 40, op := _, type := _, pos := _, after := _, guard := _ }) (v := ?_) rfl (by kernel_rfl) (by kernel_rfl) (by kernel_rfl) (fun _ _ _ h => h) (Or.inl ⟨by rfl, ?_⟩) (by assumption) ?_
  rotate_left 1
  · intro u hSw; obtain ⟨s1, s2, s3, s4⟩ := hSw; go_simp; try with_reducible rfl
  try simp only [Act.put, List.setIfInBounds_toArray, List.set_cons_zero, List.set_cons_succ]
  refine wpAnyH_take (i := 19) (oi := { dst := some 41, op := _, type := _, pos := _, after := _, guard := _ }) (v := ?_) rfl (by kernel_rfl) (by kernel_rfl) (by kernel_rfl) (fun _ _ _ h => h) (Or.inl ⟨by rfl, ?_⟩) (by assumption) ?_
  rotate_left 1
  · intro u hSw; obtain ⟨s1, s2, s3, s4⟩ := hSw; go_simp; try with_reducible rfl
  try simp only [Act.put, List.setIfInBounds_toArray, List.set_cons_zero, List.set_cons_succ]
  refine wpAnyH_take (i := 20) (oi := { dst := some 42, op := _, type := _, pos := _, after := _, guard := _ }) (v := ?_) rfl (by kernel_rfl) (by kernel_rfl) (by kernel_rfl) (fun _ _ _ h => h) (Or.inl ⟨by rfl, ?_⟩) (by assumption) ?_
  rotate_left 1
  · intro u hSw; obtain ⟨s1, s2, s3, s4⟩ := hSw; go_simp; try with_reducible rfl
  try simp only [Act.put, List.setIfInBounds_toArray, List.set_cons_zero, List.set_cons_succ]
  refine wpAnyH_take (i := 21) (oi := { dst := some 43, op := _, type := _, pos := _, after := _, guard := _ }) (v := ?_) rfl (by kernel_rfl) (by kernel_rfl) (by kernel_rfl) (fun _ _ _ h => h) (Or.inl ⟨by rfl, ?_⟩) (by assumption) ?_
  rotate_left 1
  · intro u hSw; obtain ⟨s1, s2, s3, s4⟩ := hSw; go_simp; try with_reducible rfl
  try simp only [Act.put, List.setIfInBounds_toArray, List.set_cons_zero, List.set_cons_succ]
  refine wpAnyH_take (i := 22) (oi := { dst := some 44, op := _, type := _, pos := _, after := _, guard := _ }) (v := ?_) rfl (by kernel_rfl) (by kernel_rfl) (by kernel_rfl) (fun _ _ _ h => h) (Or.inl ⟨by rfl, ?_⟩) (by assumption) ?_
  rotate_left 1
  · intro u hSw; obtain ⟨s1, s2, s3, s4⟩ := hSw; go_simp; try with_reducible rfl
  try simp only [Act.put, List.setIfInBounds_toArray, List.set_cons_zero, List.set_cons_succ]
  refine wpAnyH_take (i := 23) (oi := { dst := some 45, op := _, type := _, pos := _, after := _, guard := _ }) (v := ?_) rfl (by kernel_rfl) (by kernel_rfl) (by kernel_rfl) (fun _ _ _ h => h) (Or.inl ⟨by rfl, ?_⟩) (by assumption) ?_
  rotate_left 1
  · intro u hSw; obtain ⟨s1, s2, s3, s4⟩ := hSw; go_simp; try with_reducible rfl
  try simp only [Act.put, List.setIfInBounds_toArray, List.set_cons_zero, List.set_cons_succ]
  refine wpAnyH_take (i := 24) (oi := { dst := some 46, op := _, type := _, pos := _, after := _, guard := _ }) (v := ?_) rfl (by kernel_rfl) (by kernel_rfl) (by kernel_rfl) (fun _ _ _ h => h) (Or.inl ⟨by rfl, ?_⟩) (by assumption) ?_
  rotate_left 1
  · intro u hSw; obtain ⟨s1, s2, s3, s4⟩ := hSw; go_simp; try with_reducible rfl
  try simp only [Act.put, List.setIfInBounds_toArray, List.set_cons_zero, List.set_cons_succ]
  refine wpAnyH_take (i := 25) (oi := { dst := some 47, op := _, type := _, pos := _, after := _, guard := _ }) (v := ?_) rfl (by kernel_rfl) (by kernel_rfl) (by kernel_rfl) (fun _ _ _ h => h) (Or.inl ⟨by rfl, ?_⟩) (by assumption) ?_
  rotate_left 1
  · intro u hSw; obtain ⟨s1, s2, s3, s4⟩ := hSw; go_simp; try with_reducible rfl
  try simp only [Act.put, List.setIfInBounds_toArray, List.set_cons_zero, List.set_cons_succ]
  refine wpAnyH_take (i := 26) (oi := { dst := some 48, op := _, type := _, pos := _, after := _, guard := _ }) (v := ?_) rfl (by kernel_rfl) (by kernel_rfl) (by kernel_rfl) (fun _ _ _ h => h) (Or.inl ⟨by rfl, ?_⟩) (by assumption) ?_
  rotate_left 1
  · intro u hSw; obtain ⟨s1, s2, s3, s4⟩ := hSw; go_simp; try with_reducible rfl
  try simp only [Act.put, List.setIfInBounds_toArray, List.set_cons_zero, List.set_cons_succ]
  refine wpAnyH_take (i := 27) (oi := { dst := some 49, op := _, type := _, pos := _, after := _, guard := _ }) (v := ?_) rfl (by kernel_rfl) (by kernel_rfl) (by kernel_rfl) (fun _ _ _ h => h) (Or.inl ⟨by rfl, ?_⟩) (by assumption) ?_
  rotate_left 1
  · intro u hSw; obtain ⟨s1, s2, s3, s4⟩ := hSw; go_simp; try with_reducible rfl
  try simp only [Act.put, List.setIfInBounds_toArray, List.set_cons_zero, List.set_cons_succ]
  refine wpAnyH_take (i := 28) (oi := { dst := some 50, op := _, type := _, pos := _, after := _, guard := _ }) (v := ?_) rfl (by kernel_rfl) (by kernel_rfl) (by kernel_rfl) (fun _ _ _ h => h) (Or.inl ⟨by rfl, ?_⟩) (by assumption) ?_
  rotate_left 1
  · intro u hSw; obtain ⟨s1, s2, s3, s4⟩ := hSw; go_simp; try with_reducible rfl
  try simp only [Act.put, List.setIfInBounds_toArray, List.set_cons_zero, List.set_cons_succ]
  refine wpAnyH_ready (rs := [29]) (by kernel_rfl) (by simp) ?_
  refine AllReadyH.cons (o := { dst := some 9, op := _, type := _, pos := _, after := _, guard := _ }) rfl (fun Kq hK => ?_) AllReadyH.nil
  obtain ⟨s1, s2, s3, s4⟩ := hHeld
  go_simp
  go_wp2_with fail
  refine hK.out _ _ (KEP.out _ ⟨rfl, rfl, rfl, by simp, fun j hj => Below.heap_alloc _ _ _ hj⟩) (fun hHeld => ?_)
  clear hK Kq
  try simp only [Act.put, List.setIfInBounds_toArray, List.set_cons_zero, List.set_cons_succ]
  have zz1 := heap_alloc_new W (.cells #[.int .u64 0, .int .u64 0, .int .u64 0] 104)
  have zy0 : (W.alloc (.cells #[.int .u64 0, .int .u64 0, .int .u64 0] 104)).cell? ⟨W.heap.size, 0, none⟩ = some (.int .u64 0) := by rw [Go.Joins.cell_of_block zz1]; rfl
  have zf0 := Go.Joins.unfrozen_of_block zz1 0
  have zy1 : (W.alloc (.cells #[.int .u64 0, .int .u64 0, .int .u64 0] 104)).cell? ⟨W.heap.size, 1, none⟩ = some (.int .u64 0) := by rw [Go.Joins.cell_of_block zz1]; rfl
  have zf1 := Go.Joins.unfrozen_of_block zz1 1
  have zy2 : (W.alloc (.cells #[.int .u64 0, .int .u64 0, .int .u64 0] 104)).cell? ⟨W.heap.size, 2, none⟩ = some (.int .u64 0) := by rw [Go.Joins.cell_of_block zz1]; rfl
  have zf2 := Go.Joins.unfrozen_of_block zz1 2
  obtain ⟨w4, hw4⟩ : ∃ x, x = W.alloc (.cells #[.int .u64 (A.va 2 (k + 1)), .int .u64 (A.va 3 (k + 1)), .int .u64 (A.va 4 (k + 1))] 104) := ⟨_, rfl⟩
  have hb4 : Below W.heap.size W w4 := by rw [hw4]; exact (Below.refl _ _).alloc (Nat.le_refl _) _
  have nb4 : w4.heap[W.heap.size]? = some (.cells #[.int .u64 (A.va 2 (k + 1)), .int .u64 (A.va 3 (k + 1)), .int .u64 (A.va 4 (k + 1))] 104 (0, 0)) := by rw [hw4]; exact heap_alloc_new W _
  refine wpAnyH_ready (rs := [30]) (by kernel_rfl) (by simp) ?_
  refine AllReadyH.cons (o := { dst := none, op := _, type := _, pos := _, after := _, guard := _ }) rfl (fun Kq hK => ?_) AllReadyH.nil
  obtain ⟨s1, s2, s3, s4⟩ := hHeld
  go_simp
  go_wp2_with fail
  refine hK.out _ _ ((by first | exact KEP.out _ ⟨rfl, rfl, rfl, by simp, fun j hj => Below.heap_alloc _ _ _ hj⟩ | (rw [← hw4]; exact KEP.out _ hb4))) (fun hHeld => ?_)
  clear hK Kq
  try simp only [Act.put, List.setIfInBounds_toArray, List.set_cons_zero, List.set_cons_succ]
  try rw [← hw4]
  clear zz1 zy0 zy1 zy2 zf0 zf1 zf2
  refine wpAnyH_done (by kernel_rfl) ?_ _
  refine NoPanic.normal ?_
  have y0 : w4.cell? ⟨W.heap.size, 0, none⟩ = some (.int .u64 (A.va 2 (k + 1))) := by rw [Go.Joins.cell_of_block nb4]; rfl
  have HB4 := hide2 hb4
  clear hb4 nb4 hw4
  go_wp2
  go_ret2
  have hF4 : Fr (fun _ => False) W w4.drew := (Fr.below (F := fun _ => False) HB4.out).drew
  have h4 := HRW.out.keep hF4 (fun _ _ e => e)
  exact ⟨rfl, H.out.fin h4 ((HFW.out.mono (G := J) (fun j _ e => by rw [e]; exact H.out.jj rb (.inl rfl))).trans (G := fun _ => False) hF4 (fun j e => e.elim))⟩
set_option maxRecDepth 100000 in
set_option maxHeartbeats 4000000 in
theorem WordR_out (h : Rf w J rb A fr st) {n : Int} (hl : lvI A 1 n = false) (y : Int) :
    Calls Tryz.prog 36 #[.pointer (some ⟨rb, 0, none⟩), .int .i64 n, .int .i64 y] w fun e w' => e = .returned (.tuple #[.int .u64 0, .int .i64 110]) ∧ w' = w := by
  obtain ⟨vn, vv, vt, h⟩ := h
  have hsm := rversion_any h n
  rw [hl] at hsm
  have HSM := hide2 hsm
  clear h hsm hl
  go_enter Tryz.func36, Tryz.ntmps36
  go_wp2_with fail
  refine HSM.out.mono ?_
  rintro e w1 ⟨rfl, q⟩
  subst q
  clear HSM
  go_wp2
  go_ret2
  exact ⟨rfl, rfl⟩
set_option maxRecDepth 100000 in
set_option maxHeartbeats 4000000 in
theorem rWord1_in (h : Rf w J rb A fr st) {k : Nat} (hl : A.lv 1 (k + 1) = true) (hst : 0 ≤ st ∧ st < 1000000000) :
    Calls Tryz.prog 36 #[.pointer (some ⟨rb, 0, none⟩), .int .i64 ((k : Int) + 1), .int .i64 1] w fun e w' => e = .returned (.tuple #[.int .u64 (A.va 3 (k + 1)), .int .i64 0]) ∧ Raf w w' J rb A fr (st + 1) := by
  obtain ⟨vn, vv, vt, h⟩ := h
  have hnb := h.ok.n1 1 (k + 1) hl
  have hla := h.la 1
  have hsm := rversion_any h ((k : Int) + 1)
  rw [lvI_at, hl] at hsm
  have HSM := hide2 hsm
  obtain ⟨g, cp, ev, hc, hfz⟩ := h.rv.at (i := k) (by omega)
  have hgb := h.ne.2.1
  subst ev
  have hne : g ≠ rb := fun e => hgb (by rw [← e]; rfl)
  have hne2 : rb ≠ g := fun e => hne e.symm
  have q1 : w.cell? ⟨g, k * 5 + 1, none⟩ = some (.int .u64 (A.va 2 (k + 1))) := hc 1 (by omega)
  have q2 : w.cell? ⟨g, k * 5 + 2, none⟩ = some (.int .u64 (A.va 3 (k + 1))) := hc 2 (by omega)
  have q3 : w.cell? ⟨g, k * 5 + 3, none⟩ = some (.int .i64 (A.va 4 (k + 1))) := hc 3 (by omega)
  have hbd := h.ok.bd 4 (k + 1) (by decide) hl
  have hwr : IntKind.u64.wrap (A.va 4 (k + 1)) = A.va 4 (k + 1) := by rw [IntKind.wrap_u64]; omega
  have hkw : IntKind.i64.wrap (k : Int) = k := by rw [IntKind.wrap_i64]; omega
  obtain ⟨c0, c1, c2, c3, c4⟩ := h.cells
  have f4 := h.free 4
  have d3 : (k : Int) < (A.la 1 : Int) := by omega
  have d4 : ¬ ((k : Int) < 0) := by omega
  have H := hide2 h
  have hrl := h.lt
  clear h hsm hc hfz hgb hl
  go_enter Tryz.func36, Tryz.ntmps36
  go_wp2_with fail
  refine HSM.out.mono ?_
  rintro e w1 ⟨rfl, q⟩
  subst q
  clear HSM
  obtain ⟨W, hW⟩ : ∃ x, x = w1.setCell ⟨rb, 4, none⟩ (.int .i64 (st + 1)) := ⟨_, rfl⟩
  have hFW : Fr (fun j => j = rb) w1 W := by rw [hW]; exact Fr.setCell (p := ⟨rb, 4, none⟩) (Fr.refl (fun j => j = rb) w1) (.inl rfl) _
  have hRW : Rg W J rb vn (.slice (some ⟨g, 0, none⟩) (A.la 1) cp) vt A fr (st + 1) := by rw [hW]; exact H.out.step (st + 1)
  have hgl := (H.out.rv.lt (b := g) rfl).2
  have p1 := hRW.cells.2.1
  have p2 : W.cell? ⟨g, k * 5 + 1, none⟩ = some (.int .u64 (A.va 2 (k + 1))) := (hFW.cell (p := ⟨g, k * 5 + 1, none⟩) hgl hne).trans q1
  have p3 : W.cell? ⟨g, k * 5 + 2, none⟩ = some (.int .u64 (A.va 3 (k + 1))) := (hFW.cell (p := ⟨g, k * 5 + 2, none⟩) hgl hne).trans q2
  have p4 : W.cell? ⟨g, k * 5 + 3, none⟩ = some (.int .i64 (A.va 4 (k + 1))) := (hFW.cell (p := ⟨g, k * 5 + 3, none⟩) hgl hne).trans q3
  have hrW := hRW.lt
  have hgW : g < W.heap.size := by have := hFW.size; omega
  have KEP : Hid (∀ u, Below W.heap.size W u → u.cell? ⟨rb, 1, none⟩ = some (.slice (some ⟨g, 0, none⟩) (A.la 1) cp) ∧ u.cell? ⟨g, k * 5 + 1, none⟩ = some (.int .u64 (A.va 2 (k + 1))) ∧ u.cell? ⟨g, k * 5 + 2, none⟩ = some (.int .u64 (A.va 3 (k + 1))) ∧ u.cell? ⟨g, k * 5 + 3, none⟩ = some (.int .i64 (A.va 4 (k + 1)))) := hide2 (fun u hb => ⟨(hb.cell (p := ⟨rb, 1, none⟩) hrW).trans p1, (hb.cell (p := ⟨g, k * 5 + 1, none⟩) hgW).trans p2, (hb.cell (p := ⟨g, k * 5 + 2, none⟩) hgW).trans p3, (hb.cell (p := ⟨g, k * 5 + 3, none⟩) hgW).trans p4⟩)
  have HRW := hide2 hRW
  have HFW := hide2 hFW
  clear hRW hFW
  go_wp2_with fail
  rw [← hW]
  clear hW q1 q2 q3 c0 c1 c2 c3 c4 f4
  refine wp_region_noPanic ?_
  refine wp_region_held_drew (S := (fun u : World => u.cell? ⟨rb, 1, none⟩ = some (.slice (some ⟨g, 0, none⟩) (A.la 1) cp) ∧ u.cell? ⟨g, k * 5 + 1, none⟩ = some (.int .u64 (A.va 2 (k + 1))) ∧ u.cell? ⟨g, k * 5 + 2, none⟩ = some (.int .u64 (A.va 3 (k + 1))) ∧ u.cell? ⟨g, k * 5 + 3, none⟩ = some (.int .i64 (A.va 4 (k + 1))))) (by kernel_rfl) (⟨p1, p2, p3, p4⟩) (fun hHeld => ?_)
  refine wpAnyH_take (i := 0) (oi := { dst := some 22, op := _, type := _, pos := _, after := _, guard := _ }) (v := ?_) rfl (by kernel_rfl) (by kernel_rfl) (by kernel_rfl) (fun _ _ _ h => h) (Or.inl ⟨by rfl, ?_⟩) (by assumption) ?_
  rotate_left 1
  · intro u hSw; obtain ⟨s1, s2, s3, s4⟩ := hSw; go_simp; try with_reducible rfl
  try simp only [Act.put, List.setIfInBounds_toArray, List.set_cons_zero, List.set_cons_succ]
  refine wpAnyH_take (i := 1) (oi := { dst := some 23, op := _, type := _, pos := _, after := _, guard := _ }) (v := ?_) rfl (by kernel_rfl) (by kernel_rfl) (by kernel_rfl) (fun _ _ _ h => h) (Or.inl ⟨by rfl, ?_⟩) (by assumption) ?_
  rotate_left 1
  · intro u hSw; obtain ⟨s1, s2, s3, s4⟩ := hSw; go_simp; try with_reducible rfl
  try simp only [Act.put, List.setIfInBounds_toArray, List.set_cons_zero, List.set_cons_succ]
  refine wpAnyH_take (i := 2) (oi := { dst := some 24, op := _, type := _, pos := _, after := _, guard := _ }) (v := ?_) rfl (by kernel_rfl) (by kernel_rfl) (by kernel_rfl) (fun _ _ _ h => h) (Or.inl ⟨by rfl, ?_⟩) (by assumption) ?_
  rotate_left 1
  · intro u hSw; obtain ⟨s1, s2, s3, s4⟩ := hSw; go_simp; try with_reducible rfl
  try simp only [Act.put, List.setIfInBounds_toArray, List.set_cons_zero, List.set_cons_succ]
  refine wpAnyH_take (i := 3) (oi := { dst := some 25, op := _, type := _, pos := _, after := _, guard := _ }) (v := ?_) rfl (by kernel_rfl) (by kernel_rfl) (by kernel_rfl) (fun _ _ _ h => h) (Or.inl ⟨by rfl, ?_⟩) (by assumption) ?_
  rotate_left 1
  · intro u hSw; obtain ⟨s1, s2, s3, s4⟩ := hSw; go_simp; try with_reducible rfl
  try simp only [Act.put, List.setIfInBounds_toArray, List.set_cons_zero, List.set_cons_succ]
  refine wpAnyH_take (i := 4) (oi := { dst := some 26, op := _, type := _, pos := _, after := _, guard := _ }) (v := ?_) rfl (by kernel_rfl) (by kernel_rfl) (by kernel_rfl) (fun _ _ _ h => h) (Or.inl ⟨by rfl, ?_⟩) (by assumption) ?_
  rotate_left 1
  · intro u hSw; obtain ⟨s1, s2, s3, s4⟩ := hSw; go_simp; try with_reducible rfl
  try simp only [Act.put, List.setIfInBounds_toArray, List.set_cons_zero, List.set_cons_succ]
  refine wpAnyH_take (i := 5) (oi := { dst := some 27, op := _, type := _, pos := _, after := _, guard := _ }) (v := ?_) rfl (by kernel_rfl) (by kernel_rfl) (by kernel_rfl) (fun _ _ _ h => h) (Or.inl ⟨by rfl, ?_⟩) (by assumption) ?_
  rotate_left 1
  · intro u hSw; obtain ⟨s1, s2, s3, s4⟩ := hSw; go_simp; try with_reducible rfl
  try simp only [Act.put, List.setIfInBounds_toArray, List.set_cons_zero, List.set_cons_succ]
  refine wpAnyH_take (i := 6) (oi := { dst := some 28, op := _, type := _, pos := _, after := _, guard := _ }) (v := ?_) rfl (by kernel_rfl) (by kernel_rfl) (by kernel_rfl) (fun _ _ _ h => h) (Or.inl ⟨by rfl, ?_⟩) (by assumption) ?_
  rotate_left 1
  · intro u hSw; obtain ⟨s1, s2, s3, s4⟩ := hSw; go_simp; try with_reducible rfl
  try simp only [Act.put, List.setIfInBounds_toArray, List.set_cons_zero, List.set_cons_succ]
  refine wpAnyH_take (i := 7) (oi := { dst := some 29, op := _, type := _, pos := _, after := _, guard := _ }) (v := ?_) rfl (by kernel_rfl) (by kernel_rfl) (by kernel_rfl) (fun _ _ _ h => h) (Or.inl ⟨by rfl, ?_⟩) (by assumption) ?_
  rotate_left 1
  · intro u hSw; obtain ⟨s1, s2, s3, s4⟩ := hSw; go_simp; try with_reducible rfl
  try simp only [Act.put, List.setIfInBounds_toArray, List.set_cons_zero, List.set_cons_succ]
  refine wpAnyH_take (i := 8) (oi := { dst := some 30, op := _, type := _, pos := _, after := _, guard := _ }) (v := ?_) rfl (by kernel_rfl) (by kernel_rfl) (by kernel_rfl) (fun _ _ _ h => h) (Or.inl ⟨by rfl, ?_⟩) (by assumption) ?_
  rotate_left 1
  · intro u hSw; obtain ⟨s1, s2, s3, s4⟩ := hSw; go_simp; try with_reducible rfl
  try simp only [Act.put, List.setIfInBounds_toArray, List.set_cons_zero, List.set_cons_succ]
  refine wpAnyH_take (i := 9) (oi := { dst := some 31, op := _, type := _, pos := _, after := _, guard := _ }) (v := ?_) rfl (by kernel_rfl) (by kernel_rfl) (by kernel_rfl) (fun _ _ _ h => h) (Or.inl ⟨by rfl, ?_⟩) (by assumption) ?_
  rotate_left 1
  · intro u hSw; obtain ⟨s1, s2, s3, s4⟩ := hSw; go_simp; try with_reducible rfl
  try simp only [Act.put, List.setIfInBounds_toArray, List.set_cons_zero, List.set_cons_succ]
  refine wpAnyH_take (i := 10) (oi := { dst := some 32, op := _, type := _, pos := _, after := _, guard := _ }) (v := ?_) rfl (by kernel_rfl) (by kernel_rfl) (by kernel_rfl) (fun _ _ _ h => h) (Or.inl ⟨by rfl, ?_⟩) (by assumption) ?_
  rotate_left 1
  · intro u hSw; obtain ⟨s1, s2, s3, s4⟩ := hSw; go_simp; try with_reducible rfl
  try simp only [Act.put, List.setIfInBounds_toArray, List.set_cons_zero, List.set_cons_succ]
  refine wpAnyH_take (i := 11) (oi := { dst := some 33, op := _, type := _, pos := _, after := _, guard := _ }) (v := ?_) rfl (by kernel_rfl) (by kernel_rfl) (by kernel_rfl) (fun _ _ _ h => h) (Or.inl ⟨by rfl, ?_⟩) (by assumption) ?_
  rotate_left 1
  · intro u hSw; obtain ⟨s1, s2, s3, s4⟩ := hSw; go_simp; try with_reducible rfl
  try simp only [Act.put, List.setIfInBounds_toArray, List.set_cons_zero, List.set_cons_succ]
  refine wpAnyH_take (i := 12) (oi := { dst := some 34, op := _, type := _, pos := _, after := _, guard := _ }) (v := ?_) rfl (by kernel_rfl) (by kernel_rfl) (by kernel_rfl) (fun _ _ _ h => h) (Or.inl ⟨by rfl, ?_⟩) (by assumption) ?_
  rotate_left 1
  · intro u hSw; obtain ⟨s1, s2, s3, s4⟩ := hSw; go_simp; try with_reducible rfl
  try simp only [Act.put, List.setIfInBounds_toArray, List.set_cons_zero, List.set_cons_succ]
  refine wpAnyH_take (i := 13) (oi := { dst := some 35, op := _, type := _, pos := _, after := _, guard := _ }) (v := ?_) rfl (by kernel_rfl) (by kernel_rfl) (by kernel_rfl) (fun _ _ _ h => h) (Or.inl ⟨by rfl, ?_⟩) (by assumption) ?_
  rotate_left 1
  · intro u hSw; obtain ⟨s1, s2, s3, s4⟩ := hSw; go_simp; try with_reducible rfl
  try simp only [Act.put, List.setIfInBounds_toArray, List.set_cons_zero, List.set_cons_succ]
  refine wpAnyH_take (i := 14) (oi := { dst := some 36, op := _, type := _, pos := _, after := _, guard := _ }) (v := ?_) rfl (by kernel_rfl) (by kernel_rfl) (by kernel_rfl) (fun _ _ _ h => h) (Or.inl ⟨by rfl, ?_⟩) (by assumption) ?_
  rotate_left 1
  · intro u hSw; obtain ⟨s1, s2, s3, s4⟩ := hSw; go_simp; try with_reducible rfl
  try simp only [Act.put, List.setIfInBounds_toArray, List.set_cons_zero, List.set_cons_succ]
  refine wpAnyH_take (i := 15) (oi := { dst := some 37, op := _, type := _, pos := _, after := _, guard := _ }) (v := ?_) rfl (by kernel_rfl) (by kernel_rfl) (by kernel_rfl) (fun _ _ _ h => h) (Or.inl ⟨by rfl, ?_⟩) (by assumption) ?_
  rotate_left 1
  · intro u hSw; obtain ⟨s1, s2, s3, s4⟩ := hSw; go_simp; try with_reducible rfl
  try simp only [Act.put, List.setIfInBounds_toArray, List.set_cons_zero, List.set_cons_succ]
  refine wpAnyH_take (i := 16) (oi := { dst := some 38, op := _, type := _, pos := _, after := _, guard := _ }) (v := ?_) rfl (by kernel_rfl) (by kernel_rfl) (by kernel_rfl) (fun _ _ _ h => h) (Or.inl ⟨by rfl, ?_⟩) (by assumption) ?_
  rotate_left 1
  · intro u hSw; obtain ⟨s1, s2, s3, s4⟩ := hSw; go_simp; try with_reducible rfl
  try simp only [Act.put, List.setIfInBounds_toArray, List.set_cons_zero, List.set_cons_succ]
  refine wpAnyH_take (i := 17) (oi := { dst := some 39, op := _, type := _, pos := _, after := _, guard := _ }) (v := ?_) rfl (by kernel_rfl) (by kernel_rfl) (by kernel_rfl) (fun _ _ _ h => h) (Or.inl ⟨by rfl, ?_⟩) (by assumption) ?_
  rotate_left 1
  · intro u hSw; obtain ⟨s1, s2, s3, s4⟩ := hSw; go_simp; try with_reducible rfl
  try simp only [Act.put, List.setIfInBounds_toArray, List.set_cons_zero, List.set_cons_succ]
  refine wpAnyH_take (i := 18) (oi := { dst := some 40, op := _, type := _, pos := _, after := _, guard := _ }) (v := ?_) rfl (by kernel_rfl) (by kernel_rfl) (by kernel_rfl) (fun _ _ _ h => h) (Or.inl ⟨by rfl, ?_⟩) (by assumption) ?_
  rotate_left 1
  · intro u hSw; obtain ⟨s1, s2, s3, s4⟩ := hSw; go_simp; try with_reducible rfl
  try simp only [Act.put, List.setIfInBounds_toArray, List.set_cons_zero, List.set_cons_succ]
  refine wpAnyH_take (i := 19) (oi := { dst := some 41, op := _, type := _, pos := _, after := _, guard := _ }) (v := ?_) rfl (by kernel_rfl) (by kernel_rfl) (by kernel_rfl) (fun _ _ _ h => h) (Or.inl ⟨by rfl, ?_⟩) (by assumption) ?_
  rotate_left 1
  · intro u hSw; obtain ⟨s1, s2, s3, s4⟩ := hSw; go_simp; try with_reducible rfl
  try simp only [Act.put, List.setIfInBounds_toArray, List.set_cons_zero, List.set_cons_succ]
  refine wpAnyH_take (i := 20) (oi := { dst := some 42, op := _, type := _, pos := _, after := _, guard := _ }) (v := ?_) rfl (by kernel_rfl) (by kernel_rfl) (by kernel_rfl) (fun _ _ _ h => h) (Or.inl ⟨by rfl, ?_⟩) (by assumption) ?_
  rotate_left 1
  · intro u hSw; obtain ⟨s1, s2, s3, s4⟩ := hSw; go_simp; try with_reducible rfl
  try simp only [Act.put, List.setIfInBounds_toArray, List.set_cons_zero, List.set_cons_succ]
  refine wpAnyH_take (i := 21) (oi := { dst := some 43, op := _, type := _, pos := _, after := _, guard := _ }) (v := ?_) rfl (by kernel_rfl) (by kernel_rfl) (by kernel_rfl) (fun _ _ _ h => h) (Or.inl ⟨by rfl, ?_⟩) (by assumption) ?_
  rotate_left 1
  · intro u hSw; obtain ⟨s1, s2, s3, s4⟩ := hSw; go_simp; try with_reducible rfl
  try simp only [Act.put, List.setIfInBounds_toArray, List.set_cons_zero, List.set_cons_succ]
  refine wpAnyH_take (i := 22) (oi := { dst := some 44, op := _, type := _, pos := _, after := _, guard := _ }) (v := ?_) rfl (by kernel_rfl) (by kernel_rfl) (by kernel_rfl) (fun _ _ _ h => h) (Or.inl ⟨by rfl, ?_⟩) (by assumption) ?_
  rotate_left 1
  · intro u hSw; obtain ⟨s1, s2, s3, s4⟩ := hSw; go_simp; try with_reducible rfl
  try simp only [Act.put, List.setIfInBounds_toArray, List.set_cons_zero, List.set_cons_succ]
  refine wpAnyH_take (i := 23) (oi := { dst := some 45, op := _, type := _, pos := _, after := _, guard := _ }) (v := ?_) rfl (by kernel_rfl) (by kernel_rfl) (by kernel_rfl) (fun _ _ _ h => h) (Or.inl ⟨by rfl, ?_⟩) (by assumption) ?_
  rotate_left 1
  · intro u hSw; obtain ⟨s1, s2, s3, s4⟩ := hSw; go_simp; try with_reducible rfl
  try simp only [Act.put, List.setIfInBounds_toArray, List.set_cons_zero, List.set_cons_succ]
  refine wpAnyH_take (i := 24) (oi := { dst := some 46, op := _, type := _, pos := _, after := _, guard := _ }) (v := ?_) rfl (by kernel_rfl) (by kernel_rfl) (by kernel_rfl) (fun _ _ _ h => h) (Or.inl ⟨by rfl, ?_⟩) (by assumption) ?_
  rotate_left 1
  · intro u hSw; obtain ⟨s1, s2, s3, s4⟩ := hSw; go_simp; try with_reducible rfl
  try simp only [Act.put, List.setIfInBounds_toArray, List.set_cons_zero, List.set_cons_succ]
  refine wpAnyH_take (i := 25) (oi := { dst := some 47, op := _, type := _, pos := _, after := _, guard := _ }) (v := ?_) rfl (by kernel_rfl) (by kernel_rfl) (by kernel_rfl) (fun _ _ _ h => h) (Or.inl ⟨by rfl, ?_⟩) (by assumption) ?_
  rotate_left 1
  · intro u hSw; obtain ⟨s1, s2, s3, s4⟩ := hSw; go_simp; try with_reducible rfl
  try simp only [Act.put, List.setIfInBounds_toArray, List.set_cons_zero, List.set_cons_succ]
  refine wpAnyH_take (i := 26) (oi := { dst := some 48, op := _, type := _, pos := _, after := _, guard := _ }) (v := ?_) rfl (by kernel_rfl) (by kernel_rfl) (by kernel_rfl) (fun _ _ _ h => h) (Or.inl ⟨by rfl, ?_⟩) (by assumption) ?_
  rotate_left 1
  · intro u hSw; obtain ⟨s1, s2, s3, s4⟩ := hSw; go_simp; try with_reducible rfl
  try simp only [Act.put, List.setIfInBounds_toArray, List.set_cons_zero, List.set_cons_succ]
  refine wpAnyH_take (i := 27) (oi := { dst := some 49, op := _, type := _, pos := _, after := _, guard := _ }) (v := ?_) rfl (by kernel_rfl) (by kernel_rfl) (by kernel_rfl) (fun _ _ _ h => h) (Or.inl ⟨by rfl, ?_⟩) (by assumption) ?_
  rotate_left 1
  · intro u hSw; obtain ⟨s1, s2, s3, s4⟩ := hSw; go_simp; try with_reducible rfl
  try simp only [Act.put, List.setIfInBounds_toArray, List.set_cons_zero, List.set_cons_succ]
  refine wpAnyH_take (i := 28) (oi := { dst := some 50, op := _, type := _, pos := _, after := _, guard := _ }) (v := ?_) rfl (by kernel_rfl) (by kernel_rfl) (by kernel_rfl) (fun _ _ _ h => h) (Or.inl ⟨by rfl, ?_⟩) (by assumption) ?_
  rotate_left 1
  · intro u hSw; obtain ⟨s1, s2, s3, s4⟩ := hSw; go_simp; try with_reducible rfl
  try simp only [Act.put, List.setIfInBounds_toArray, List.set_cons_zero, List.set_cons_succ]
  refine wpAnyH_ready (rs := [29]) (by kernel_rfl) (by simp) ?_
  refine AllReadyH.cons (o := { dst := some 9, op := _, type := _, pos := _, after := _, guard := _ }) rfl (fun Kq hK => ?_) AllReadyH.nil
  obtain ⟨s1, s2, s3, s4⟩ := hHeld
  go_simp
  go_wp2_with fail
  refine hK.out _ _ (KEP.out _ ⟨rfl, rfl, rfl, by simp, fun j hj => Below.heap_alloc _ _ _ hj⟩) (fun hHeld => ?_)
  clear hK Kq
  try simp only [Act.put, List.setIfInBounds_toArray, List.set_cons_zero, List.set_cons_succ]
  have zz1 := heap_alloc_new W (.cells #[.int .u64 0, .int .u64 0, .int .u64 0] 104)
  have zy0 : (W.alloc (.cells #[.int .u64 0, .int .u64 0, .int .u64 0] 104)).cell? ⟨W.heap.size, 0, none⟩ = some (.int .u64 0) := by rw [Go.Joins.cell_of_block zz1]; rfl
  have zf0 := Go.Joins.unfrozen_of_block zz1 0
  have zy1 : (W.alloc (.cells #[.int .u64 0, .int .u64 0, .int .u64 0] 104)).cell? ⟨W.heap.size, 1, none⟩ = some (.int .u64 0) := by rw [Go.Joins.cell_of_block zz1]; rfl
  have zf1 := Go.Joins.unfrozen_of_block zz1 1
  have zy2 : (W.alloc (.cells #[.int .u64 0, .int .u64 0, .int .u64 0] 104)).cell? ⟨W.heap.size, 2, none⟩ = some (.int .u64 0) := by rw [Go.Joins.cell_of_block zz1]; rfl
  have zf2 := Go.Joins.unfrozen_of_block zz1 2
  obtain ⟨w4, hw4⟩ : ∃ x, x = W.alloc (.cells #[.int .u64 (A.va 2 (k + 1)), .int .u64 (A.va 3 (k + 1)), .int .u64 (A.va 4 (k + 1))] 104) := ⟨_, rfl⟩
  have hb4 : Below W.heap.size W w4 := by rw [hw4]; exact (Below.refl _ _).alloc (Nat.le_refl _) _
  have nb4 : w4.heap[W.heap.size]? = some (.cells #[.int .u64 (A.va 2 (k + 1)), .int .u64 (A.va 3 (k + 1)), .int .u64 (A.va 4 (k + 1))] 104 (0, 0)) := by rw [hw4]; exact heap_alloc_new W _
  refine wpAnyH_ready (rs := [30]) (by kernel_rfl) (by simp) ?_
  refine AllReadyH.cons (o := { dst := none, op := _, type := _, pos := _, after := _, guard := _ }) rfl (fun Kq hK => ?_) AllReadyH.nil
  obtain ⟨s1, s2, s3, s4⟩ := hHeld
  go_simp
  go_wp2_with fail
  refine hK.out _ _ ((by first | exact KEP.out _ ⟨rfl, rfl, rfl, by simp, fun j hj => Below.heap_alloc _ _ _ hj⟩ | (rw [← hw4]; exact KEP.out _ hb4))) (fun hHeld => ?_)
  clear hK Kq
  try simp only [Act.put, List.setIfInBounds_toArray, List.set_cons_zero, List.set_cons_succ]
  try rw [← hw4]
  clear zz1 zy0 zy1 zy2 zf0 zf1 zf2
  refine wpAnyH_done (by kernel_rfl) ?_ _
  refine NoPanic.normal ?_
  have y1 : w4.cell? ⟨W.heap.size, 1, none⟩ = some (.int .u64 (A.va 3 (k + 1))) := by rw [Go.Joins.cell_of_block nb4]; rfl
  have HB4 := hide2 hb4
  clear hb4 nb4 hw4
  go_wp2
  go_ret2
  have hF4 : Fr (fun _ => False) W w4.drew := (Fr.below (F := fun _ => False) HB4.out).drew
  have h4 := HRW.out.keep hF4 (fun _ _ e => e)
  exact ⟨rfl, H.out.fin h4 ((HFW.out.mono (G := J) (fun j _ e => by rw [e]; exact H.out.jj rb (.inl rfl))).trans (G := fun _ => False) hF4 (fun j e => e.elim))⟩
set_option maxRecDepth 100000 in
set_option maxHeartbeats 4000000 in
theorem rWord2_in (h : Rf w J rb A fr st) {k : Nat} (hl : A.lv 1 (k + 1) = true) (hst : 0 ≤ st ∧ st < 1000000000) :
    Calls Tryz.prog 36 #[.pointer (some ⟨rb, 0, none⟩), .int .i64 ((k : Int) + 1), .int .i64 2] w fun e w' => e = .returned (.tuple #[.int .u64 (A.va 4 (k + 1)), .int .i64 0]) ∧ Raf w w' J rb A fr (st + 1) := by
  obtain ⟨vn, vv, vt, h⟩ := h
  have hnb := h.ok.n1 1 (k + 1) hl
  have hla := h.la 1
  have hsm := rversion_any h ((k : Int) + 1)
  rw [lvI_at, hl] at hsm
  have HSM := hide2 hsm
  obtain ⟨g, cp, ev, hc, hfz⟩ := h.rv.at (i := k) (by omega)
  have hgb := h.ne.2.1
  subst ev
  have hne : g ≠ rb := fun e => hgb (by rw [← e]; rfl)
  have hne2 : rb ≠ g := fun e => hne e.symm
  have q1 : w.cell? ⟨g, k * 5 + 1, none⟩ = some (.int .u64 (A.va 2 (k + 1))) := hc 1 (by omega)
  have q2 : w.cell? ⟨g, k * 5 + 2, none⟩ = some (.int .u64 (A.va 3 (k + 1))) := hc 2 (by omega)
  have q3 : w.cell? ⟨g, k * 5 + 3, none⟩ = some (.int .i64 (A.va 4 (k + 1))) := hc 3 (by omega)
  have hbd := h.ok.bd 4 (k + 1) (by decide) hl
  have hwr : IntKind.u64.wrap (A.va 4 (k + 1)) = A.va 4 (k + 1) := by rw [IntKind.wrap_u64]; omega
  have hkw : IntKind.i64.wrap (k : Int) = k := by rw [IntKind.wrap_i64]; omega
  obtain ⟨c0, c1, c2, c3, c4⟩ := h.cells
  have f4 := h.free 4
  have d3 : (k : Int) < (A.la 1 : Int) := by omega
  have d4 : ¬ ((k : Int) < 0) := by omega
  have H := hide2 h
  have hrl := h.lt
  clear h hsm hc hfz hgb hl
  go_enter Tryz.func36, Tryz.ntmps36
  go_wp2_with fail
  refine HSM.out.mono ?_
  rintro e w1 ⟨rfl, q⟩
  subst q
  clear HSM
  obtain ⟨W, hW⟩ : ∃ x, x = w1.setCell ⟨rb, 4, none⟩ (.int .i64 (st + 1)) := ⟨_, rfl⟩
  have hFW : Fr (fun j => j = rb) w1 W := by rw [hW]; exact Fr.setCell (p := ⟨rb, 4, none⟩) (Fr.refl (fun j => j = rb) w1) (.inl rfl) _
  have hRW : Rg W J rb vn (.slice (some ⟨g, 0, none⟩) (A.la 1) cp) vt A fr (st + 1) := by rw [hW]; exact H.out.step (st + 1)
  have hgl := (H.out.rv.lt (b := g) rfl).2
  have p1 := hRW.cells.2.1
  have p2 : W.cell? ⟨g, k * 5 + 1, none⟩ = some (.int .u64 (A.va 2 (k + 1))) := (hFW.cell (p := ⟨g, k * 5 + 1, none⟩) hgl hne).trans q1
  have p3 : W.cell? ⟨g, k * 5 + 2, none⟩ = some (.int .u64 (A.va 3 (k + 1))) := (hFW.cell (p := ⟨g, k * 5 + 2, none⟩) hgl hne).trans q2
  have p4 : W.cell? ⟨g, k * 5 + 3, none⟩ = some (.int .i64 (A.va 4 (k + 1))) := (hFW.cell (p := ⟨g, k * 5 + 3, none⟩) hgl hne).trans q3
  have hrW := hRW.lt
  have hgW : g < W.heap.size := by have := hFW.size; omega
  have KEP : Hid (∀ u, Below W.heap.size W u → u.cell? ⟨rb, 1, none⟩ = some (.slice (some ⟨g, 0, none⟩) (A.la 1) cp) ∧ u.cell? ⟨g, k * 5 + 1, none⟩ = some (.int .u64 (A.va 2 (k + 1))) ∧ u.cell? ⟨g, k * 5 + 2, none⟩ = some (.int .u64 (A.va 3 (k + 1))) ∧ u.cell? ⟨g, k * 5 + 3, none⟩ = some (.int .i64 (A.va 4 (k + 1)))) := hide2 (fun u hb => ⟨(hb.cell (p := ⟨rb, 1, none⟩) hrW).trans p1, (hb.cell (p := ⟨g, k * 5 + 1, none⟩) hgW).trans p2, (hb.cell (p := ⟨g, k * 5 + 2, none⟩) hgW).trans p3, (hb.cell (p := ⟨g, k * 5 + 3, none⟩) hgW).trans p4⟩)
  have HRW := hide2 hRW
  have HFW := hide2 hFW
  clear hRW hFW
  go_wp2_with fail
  rw [← hW]
  clear hW q1 q2 q3 c0 c1 c2 c3 c4 f4
  refine wp_region_noPanic ?_
  refine wp_region_held_drew (S := (fun u : World => u.cell? ⟨rb, 1, none⟩ = some (.slice (some ⟨g, 0, none⟩) (A.la 1) cp) ∧ u.cell? ⟨g, k * 5 + 1, none⟩ = some (.int .u64 (A.va 2 (k + 1))) ∧ u.cell? ⟨g, k * 5 + 2, none⟩ = some (.int .u64 (A.va 3 (k + 1))) ∧ u.cell? ⟨g, k * 5 + 3, none⟩ = some (.int .i64 (A.va 4 (k + 1))))) (by kernel_rfl) (⟨p1, p2, p3, p4⟩) (fun hHeld => ?_)
  refine wpAnyH_take (i := 0) (oi := { dst := some 22, op := _, type := _, pos := _, after := _, guard := _ }) (v := ?_) rfl (by kernel_rfl) (by kernel_rfl) (by kernel_rfl) (fun _ _ _ h => h) (Or.inl ⟨by rfl, ?_⟩) (by assumption) ?_
  rotate_left 1
  · intro u hSw; obtain ⟨s1, s2, s3, s4⟩ := hSw; go_simp; try with_reducible rfl
  try simp only [Act.put, List.setIfInBounds_toArray, List.set_cons_zero, List.set_cons_succ]
  refine wpAnyH_take (i := 1) (oi := { dst := some 23, op := _, type := _, pos := _, after := _, guard := _ }) (v := ?_) rfl (by kernel_rfl) (by kernel_rfl) (by kernel_rfl) (fun _ _ _ h => h) (Or.inl ⟨by rfl, ?_⟩) (by assumption) ?_
  rotate_left 1
  · intro u hSw; obtain ⟨s1, s2, s3, s4⟩ := hSw; go_simp; try with_reducible rfl
  try simp only [Act.put, List.setIfInBounds_toArray, List.set_cons_zero, List.set_cons_succ]
  refine wpAnyH_take (i := 2) (oi := { dst := some 24, op := _, type := _, pos := _, after := _, guard := _ }) (v := ?_) rfl (by kernel_rfl) (by kernel_rfl) (by kernel_rfl) (fun _ _ _ h => h) (Or.inl ⟨by rfl, ?_⟩) (by assumption) ?_
  rotate_left 1
  · intro u hSw; obtain ⟨s1, s2, s3, s4⟩ := hSw; go_simp; try with_reducible rfl
  try simp only [Act.put, List.setIfInBounds_toArray, List.set_cons_zero, List.set_cons_succ]
  refine wpAnyH_take (i := 3) (oi := { dst := some 25, op := _, type := _, pos := _, after := _, guard := _ }) (v := ?_) rfl (by kernel_rfl) (by kernel_rfl) (by kernel_rfl) (fun _ _ _ h => h) (Or.inl ⟨by rfl, ?_⟩) (by assumption) ?_
  rotate_left 1
  · intro u hSw; obtain ⟨s1, s2, s3, s4⟩ := hSw; go_simp; try with_reducible rfl
  try simp only [Act.put, List.setIfInBounds_toArray, List.set_cons_zero, List.set_cons_succ]
  refine wpAnyH_take (i := 4) (oi := { dst := some 26, op := _, type := _, pos := _, after := _, guard := _ }) (v := ?_) rfl (by kernel_rfl) (by kernel_rfl) (by kernel_rfl) (fun _ _ _ h => h) (Or.inl ⟨by rfl, ?_⟩) (by assumption) ?_
  rotate_left 1
  · intro u hSw; obtain ⟨s1, s2, s3, s4⟩ := hSw; go_simp; try with_reducible rfl
  try simp only [Act.put, List.setIfInBounds_toArray, List.set_cons_zero, List.set_cons_succ]
  refine wpAnyH_take (i := 5) (oi := { dst := some 27, op := _, type := _, pos := _, after := _, guard := _ }) (v := ?_) rfl (by kernel_rfl) (by kernel_rfl) (by kernel_rfl) (fun _ _ _ h => h) (Or.inl ⟨by rfl, ?_⟩) (by assumption) ?_
  rotate_left 1
  · intro u hSw; obtain ⟨s1, s2, s3, s4⟩ := hSw; go_simp; try with_reducible rfl
  try simp only [Act.put, List.setIfInBounds_toArray, List.set_cons_zero, List.set_cons_succ]
  refine wpAnyH_take (i := 6) (oi := { dst := some 28, op := _, type := _, pos := _, after := _, guard := _ }) (v := ?_) rfl (by kernel_rfl) (by kernel_rfl) (by kernel_rfl) (fun _ _ _ h => h) (Or.inl ⟨by rfl, ?_⟩) (by assumption) ?_
  rotate_left 1
  · intro u hSw; obtain ⟨s1, s2, s3, s4⟩ := hSw; go_simp; try with_reducible rfl
  try simp only [Act.put, List.setIfInBounds_toArray, List.set_cons_zero, List.set_cons_succ]
  refine wpAnyH_take (i := 7) (oi := { dst := some 29, op := _, type := _, pos := _, after := _, guard := _ }) (v := ?_) rfl (by kernel_rfl) (by kernel_rfl) (by kernel_rfl) (fun _ _ _ h => h) (Or.inl ⟨by rfl, ?_⟩) (by assumption) ?_
  rotate_left 1
  · intro u hSw; obtain ⟨s1, s2, s3, s4⟩ := hSw; go_simp; try with_reducible rfl
  try simp only [Act.put, List.setIfInBounds_toArray, List.set_cons_zero, List.set_cons_succ]
  refine wpAnyH_take (i := 8) (oi := { dst := some 30, op := _, type := _, pos := _, after := _, guard := _ }) (v := ?_) rfl (by kernel_rfl) (by kernel_rfl) (by kernel_rfl) (fun _ _ _ h => h) (Or.inl ⟨by rfl, ?_⟩) (by assumption) ?_
  rotate_left 1
  · intro u hSw; obtain ⟨s1, s2, s3, s4⟩ := hSw; go_simp; try with_reducible rfl
  try simp only [Act.put, List.setIfInBounds_toArray, List.set_cons_zero, List.set_cons_succ]
  refine wpAnyH_take (i := 9) (oi := { dst := some 31, op := _, type := _, pos := _, after := _, guard := _ }) (v := ?_) rfl (by kernel_rfl) (by kernel_rfl) (by kernel_rfl) (fun _ _ _ h => h) (Or.inl ⟨by rfl, ?_⟩) (by assumption) ?_
  rotate_left 1
  · intro u hSw; obtain ⟨s1, s2, s3, s4⟩ := hSw; go_simp; try with_reducible rfl
  try simp only [Act.put, List.setIfInBounds_toArray, List.set_cons_zero, List.set_cons_succ]
  refine wpAnyH_take (i := 10) (oi := { dst := some 32, op := _, type := _, pos := _, after := _, guard := _ }) (v := ?_) rfl (by kernel_rfl) (by kernel_rfl) (by kernel_rfl) (fun _ _ _ h => h) (Or.inl ⟨by rfl, ?_⟩) (by assumption) ?_
  rotate_left 1
  · intro u hSw; obtain ⟨s1, s2, s3, s4⟩ := hSw; go_simp; try with_reducible rfl
  try simp only [Act.put, List.setIfInBounds_toArray, List.set_cons_zero, List.set_cons_succ]
  refine wpAnyH_take (i := 11) (oi := { dst := some 33, op := _, type := _, pos := _, after := _, guard := _ }) (v := ?_) rfl (by kernel_rfl) (by kernel_rfl) (by kernel_rfl) (fun _ _ _ h => h) (Or.inl ⟨by rfl, ?_⟩) (by assumption) ?_
  rotate_left 1
  · intro u hSw; obtain ⟨s1, s2, s3, s4⟩ := hSw; go_simp; try with_reducible rfl
  try simp only [Act.put, List.setIfInBounds_toArray, List.set_cons_zero, List.set_cons_succ]
  refine wpAnyH_take (i := 12) (oi := { dst := some 34, op := _, type := _, pos := _, after := _, guard := _ }) (v := ?_) rfl (by kernel_rfl) (by kernel_rfl) (by kernel_rfl) (fun _ _ _ h => h) (Or.inl ⟨by rfl, ?_⟩) (by assumption) ?_
  rotate_left 1
  · intro u hSw; obtain ⟨s1, s2, s3, s4⟩ := hSw; go_simp; try with_reducible rfl
  try simp only [Act.put, List.setIfInBounds_toArray, List.set_cons_zero, List.set_cons_succ]
  refine wpAnyH_take (i := 13) (oi := { dst := some 35, op := _, type := _, pos := _, after := _, guard := _ }) (v := ?_) rfl (by kernel_rfl) (by kernel_rfl) (by kernel_rfl) (fun _ _ _ h => h) (Or.inl ⟨by rfl, ?_⟩) (by assumption) ?_
  rotate_left 1
  · intro u hSw; obtain ⟨s1, s2, s3, s4⟩ := hSw; go_simp; try with_reducible rfl
  try simp only [Act.put, List.setIfInBounds_toArray, List.set_cons_zero, List.set_cons_succ]
  refine wpAnyH_take (i := 14) (oi := { dst := some 36, op := _, type := _, pos := _, after := _, guard := _ }) (v := ?_) rfl (by kernel_rfl) (by kernel_rfl) (by kernel_rfl) (fun _ _ _ h => h) (Or.inl ⟨by rfl, ?_⟩) (by assumption) ?_
  rotate_left 1
  · intro u hSw; obtain ⟨s1, s2, s3, s4⟩ := hSw; go_simp; try with_reducible rfl
  try simp only [Act.put, List.setIfInBounds_toArray, List.set_cons_zero, List.set_cons_succ]
  refine wpAnyH_take (i := 15) (oi := { dst := some 37, op := _, type := _, pos := _, after := _, guard := _ }) (v := ?_) rfl (by kernel_rfl) (by kernel_rfl) (by kernel_rfl) (fun _ _ _ h => h) (Or.inl ⟨by rfl, ?_⟩) (by assumption) ?_
  rotate_left 1
  · intro u hSw; obtain ⟨s1, s2, s3, s4⟩ := hSw; go_simp; try with_reducible rfl
  try simp only [Act.put, List.setIfInBounds_toArray, List.set_cons_zero, List.set_cons_succ]
  refine wpAnyH_take (i := 16) (oi := { dst := some 38, op := _, type := _, pos := _, after := _, guard := _ }) (v := ?_) rfl (by kernel_rfl) (by kernel_rfl) (by kernel_rfl) (fun _ _ _ h => h) (Or.inl ⟨by rfl, ?_⟩) (by assumption) ?_
  rotate_left 1
  · intro u hSw; obtain ⟨s1, s2, s3, s4⟩ := hSw; go_simp; try with_reducible rfl
  try simp only [Act.put, List.setIfInBounds_toArray, List.set_cons_zero, List.set_cons_succ]
  refine wpAnyH_take (i := 17) (oi := { dst := some 39, op := _, type := _, pos := _, after := _, guard := _ }) (v := ?_) rfl (by kernel_rfl) (by kernel_rfl) (by kernel_rfl) (fun _ _ _ h => h) (Or.inl ⟨by rfl, ?_⟩) (by assumption) ?_
  rotate_left 1
  · intro u hSw; obtain ⟨s1, s2, s3, s4⟩ := hSw; go_simp; try with_reducible rfl
  try simp only [Act.put, List.setIfInBounds_toArray, List.set_cons_zero, List.set_cons_succ]
  refine wpAnyH_take (i := 18) (oi := { dst := some 40, op := _, type := _, pos := _, after := _, guard := _ }) (v := ?_) rfl (by kernel_rfl) (by kernel_rfl) (by kernel_rfl) (fun _ _ _ h => h) (Or.inl ⟨by rfl, ?_⟩) (by assumption) ?_
  rotate_left 1
  · intro u hSw; obtain ⟨s1, s2, s3, s4⟩ := hSw; go_simp; try with_reducible rfl
  try simp only [Act.put, List.setIfInBounds_toArray, List.set_cons_zero, List.set_cons_succ]
  refine wpAnyH_take (i := 19) (oi := { dst := some 41, op := _, type := _, pos := _, after := _, guard := _ }) (v := ?_) rfl (by kernel_rfl) (by kernel_rfl) (by kernel_rfl) (fun _ _ _ h => h) (Or.inl ⟨by rfl, ?_⟩) (by assumption) ?_
  rotate_left 1
  · intro u hSw; obtain ⟨s1, s2, s3, s4⟩ := hSw; go_simp; try with_reducible rfl
  try simp only [Act.put, List.setIfInBounds_toArray, List.set_cons_zero, List.set_cons_succ]
  refine wpAnyH_take (i := 20) (oi := { dst := some 42, op := _, type := _, pos := _, after := _, guard := _ }) (v := ?_) rfl (by kernel_rfl) (by kernel_rfl) (by kernel_rfl) (fun _ _ _ h => h) (Or.inl ⟨by rfl, ?_⟩) (by assumption) ?_
  rotate_left 1
  · intro u hSw; obtain ⟨s1, s2, s3, s4⟩ := hSw; go_simp; try with_reducible rfl
  try simp only [Act.put, List.setIfInBounds_toArray, List.set_cons_zero, List.set_cons_succ]
  refine wpAnyH_take (i := 21) (oi := { dst := some 43, op := _, type := _, pos := _, after := _, guard := _ }) (v := ?_) rfl (by kernel_rfl) (by kernel_rfl) (by kernel_rfl) (fun _ _ _ h => h) (Or.inl ⟨by rfl, ?_⟩) (by assumption) ?_
  rotate_left 1
  · intro u hSw; obtain ⟨s1, s2, s3, s4⟩ := hSw; go_simp; try with_reducible rfl
  try simp only [Act.put, List.setIfInBounds_toArray, List.set_cons_zero, List.set_cons_succ]
  refine wpAnyH_take (i := 22) (oi := { dst := some 44, op := _, type := _, pos := _, after := _, guard := _ }) (v := ?_) rfl (by kernel_rfl) (by kernel_rfl) (by kernel_rfl) (fun _ _ _ h => h) (Or.inl ⟨by rfl, ?_⟩) (by assumption) ?_
  rotate_left 1
  · intro u hSw; obtain ⟨s1, s2, s3, s4⟩ := hSw; go_simp; try with_reducible rfl
  try simp only [Act.put, List.setIfInBounds_toArray, List.set_cons_zero, List.set_cons_succ]
  refine wpAnyH_take (i := 23) (oi := { dst := some 45, op := _, type := _, pos := _, after := _, guard := _ }) (v := ?_) rfl (by kernel_rfl) (by kernel_rfl) (by kernel_rfl) (fun _ _ _ h => h) (Or.inl ⟨by rfl, ?_⟩) (by assumption) ?_
  rotate_left 1
  · intro u hSw; obtain ⟨s1, s2, s3, s4⟩ := hSw; go_simp; try with_reducible rfl
  try simp only [Act.put, List.setIfInBounds_toArray, List.set_cons_zero, List.set_cons_succ]
  refine wpAnyH_take (i := 24) (oi := { dst := some 46, op := _, type := _, pos := _, after := _, guard := _ }) (v := ?_) rfl (by kernel_rfl) (by kernel_rfl) (by kernel_rfl) (fun _ _ _ h => h) (Or.inl ⟨by rfl, ?_⟩) (by assumption) ?_
  rotate_left 1
  · intro u hSw; obtain ⟨s1, s2, s3, s4⟩ := hSw; go_simp; try with_reducible rfl
  try simp only [Act.put, List.setIfInBounds_toArray, List.set_cons_zero, List.set_cons_succ]
  refine wpAnyH_take (i := 25) (oi := { dst := some 47, op := _, type := _, pos := _, after := _, guard := _ }) (v := ?_) rfl (by kernel_rfl) (by kernel_rfl) (by kernel_rfl) (fun _ _ _ h => h) (Or.inl ⟨by rfl, ?_⟩) (by assumption) ?_
  rotate_left 1
  · intro u hSw; obtain ⟨s1, s2, s3, s4⟩ := hSw; go_simp; try with_reducible rfl
  try simp only [Act.put, List.setIfInBounds_toArray, List.set_cons_zero, List.set_cons_succ]
  refine wpAnyH_take (i := 26) (oi := { dst := some 48, op := _, type := _, pos := _, after := _, guard := _ }) (v := ?_) rfl (by kernel_rfl) (by kernel_rfl) (by kernel_rfl) (fun _ _ _ h => h) (Or.inl ⟨by rfl, ?_⟩) (by assumption) ?_
  rotate_left 1
  · intro u hSw; obtain ⟨s1, s2, s3, s4⟩ := hSw; go_simp; try with_reducible rfl
  try simp only [Act.put, List.setIfInBounds_toArray, List.set_cons_zero, List.set_cons_succ]
  refine wpAnyH_take (i := 27) (oi := { dst := some 49, op := _, type := _, pos := _, after := _, guard := _ }) (v := ?_) rfl (by kernel_rfl) (by kernel_rfl) (by kernel_rfl) (fun _ _ _ h => h) (Or.inl ⟨by rfl, ?_⟩) (by assumption) ?_
  rotate_left 1
  · intro u hSw; obtain ⟨s1, s2, s3, s4⟩ := hSw; go_simp; try with_reducible rfl
  try simp only [Act.put, List.setIfInBounds_toArray, List.set_cons_zero, List.set_cons_succ]
  refine wpAnyH_take (i := 28) (oi := { dst := some 50, op := _, type := _, pos := _, after := _, guard := _ }) (v := ?_) rfl (by kernel_rfl) (by kernel_rfl) (by kernel_rfl) (fun _ _ _ h => h) (Or.inl ⟨by rfl, ?_⟩) (by assumption) ?_
  rotate_left 1
  · intro u hSw; obtain ⟨s1, s2, s3, s4⟩ := hSw; go_simp; try with_reducible rfl
  try simp only [Act.put, List.setIfInBounds_toArray, List.set_cons_zero, List.set_cons_succ]
  refine wpAnyH_ready (rs := [29]) (by kernel_rfl) (by simp) ?_
  refine AllReadyH.cons (o := { dst := some 9, op := _, type := _, pos := _, after := _, guard := _ }) rfl (fun Kq hK => ?_) AllReadyH.nil
  obtain ⟨s1, s2, s3, s4⟩ := hHeld
  go_simp
  go_wp2_with fail
  refine hK.out _ _ (KEP.out _ ⟨rfl, rfl, rfl, by simp, fun j hj => Below.heap_alloc _ _ _ hj⟩) (fun hHeld => ?_)
  clear hK Kq
  try simp only [Act.put, List.setIfInBounds_toArray, List.set_cons_zero, List.set_cons_succ]
  have zz1 := heap_alloc_new W (.cells #[.int .u64 0, .int .u64 0, .int .u64 0] 104)
  have zy0 : (W.alloc (.cells #[.int .u64 0, .int .u64 0, .int .u64 0] 104)).cell? ⟨W.heap.size, 0, none⟩ = some (.int .u64 0) := by rw [Go.Joins.cell_of_block zz1]; rfl
  have zf0 := Go.Joins.unfrozen_of_block zz1 0
  have zy1 : (W.alloc (.cells #[.int .u64 0, .int .u64 0, .int .u64 0] 104)).cell? ⟨W.heap.size, 1, none⟩ = some (.int .u64 0) := by rw [Go.Joins.cell_of_block zz1]; rfl
  have zf1 := Go.Joins.unfrozen_of_block zz1 1
  have zy2 : (W.alloc (.cells #[.int .u64 0, .int .u64 0, .int .u64 0] 104)).cell? ⟨W.heap.size, 2, none⟩ = some (.int .u64 0) := by rw [Go.Joins.cell_of_block zz1]; rfl
  have zf2 := Go.Joins.unfrozen_of_block zz1 2
  obtain ⟨w4, hw4⟩ : ∃ x, x = W.alloc (.cells #[.int .u64 (A.va 2 (k + 1)), .int .u64 (A.va 3 (k + 1)), .int .u64 (A.va 4 (k + 1))] 104) := ⟨_, rfl⟩
  have hb4 : Below W.heap.size W w4 := by rw [hw4]; exact (Below.refl _ _).alloc (Nat.le_refl _) _
  have nb4 : w4.heap[W.heap.size]? = some (.cells #[.int .u64 (A.va 2 (k + 1)), .int .u64 (A.va 3 (k + 1)), .int .u64 (A.va 4 (k + 1))] 104 (0, 0)) := by rw [hw4]; exact heap_alloc_new W _
  refine wpAnyH_ready (rs := [30]) (by kernel_rfl) (by simp) ?_
  refine AllReadyH.cons (o := { dst := none, op := _, type := _, pos := _, after := _, guard := _ }) rfl (fun Kq hK => ?_) AllReadyH.nil
  obtain ⟨s1, s2, s3, s4⟩ := hHeld
  go_simp
  go_wp2_with fail
  refine hK.out _ _ ((by first | exact KEP.out _ ⟨rfl, rfl, rfl, by simp, fun j hj => Below.heap_alloc _ _ _ hj⟩ | (rw [← hw4]; exact KEP.out _ hb4))) (fun hHeld => ?_)
  clear hK Kq
  try simp only [Act.put, List.setIfInBounds_toArray, List.set_cons_zero, List.set_cons_succ]
  try rw [← hw4]
  clear zz1 zy0 zy1 zy2 zf0 zf1 zf2
  refine wpAnyH_done (by kernel_rfl) ?_ _
  refine NoPanic.normal ?_
  have y2 : w4.cell? ⟨W.heap.size, 2, none⟩ = some (.int .u64 (A.va 4 (k + 1))) := by rw [Go.Joins.cell_of_block nb4]; rfl
  have HB4 := hide2 hb4
  clear hb4 nb4 hw4
  go_wp2
  go_ret2
  have hF4 : Fr (fun _ => False) W w4.drew := (Fr.below (F := fun _ => False) HB4.out).drew
  have h4 := HRW.out.keep hF4 (fun _ _ e => e)
  exact ⟨rfl, H.out.fin h4 ((HFW.out.mono (G := J) (fun j _ e => by rw [e]; exact H.out.jj rb (.inl rfl))).trans (G := fun _ => False) hF4 (fun j e => e.elim))⟩
end
end Go.Proofs.YtbhpkidlhhkbmaaGreatDoor
