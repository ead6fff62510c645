/-
  The document's store: a field is laid; what loads, lays and swaps. (Printed by gen_tbf.py.)
-/
import Derived.Test.YtfhcphgjaobnoaaDoorTbE
set_option linter.unusedVariables false
set_option linter.unusedSimpArgs false
namespace Go.Proofs.YtfhcphgjaobnoaaDoor
open Go.RowKit Go.Maps

section
variable {w w' : World} {J : Nat → Prop} {rb : Nat} {vn vv vt : Value} {A : Stt} {fr st : Int}
theorem put_other {k n f i : Nat} {x : Int} (h : ¬ (f = k ∧ i = n)) : (A.put k n x).va f i = A.va f i := by
  show up2 A.va k n x f i = _
  exact up2_other _ _ h
theorem put_same {k n : Nat} {x : Int} : (A.put k n x).va k n = x := by
  show up2 A.va k n x k n = _
  exact up2_same _ _ _ _
theorem off_other {c n c' i : Nat} (h : ¬ (c' = c ∧ i = n)) : (A.off c n).lv c' i = A.lv c' i := by
  show up2 A.lv c n false c' i = _
  exact up2_other _ _ h
theorem off_same {c n : Nat} : (A.off c n).lv c n = false := by
  show up2 A.lv c n false c n = _
  exact up2_same _ _ _ _
theorem Rg.putHead {g cap k : Nat} (h : Rg w J rb (.slice (some ⟨g, 0, none⟩) (A.la 0) cap) vv vt A fr st) (hk : k < A.la 0) {x : Int} (hok : (A.put 0 (k + 1) x).ok) : Rg (w.setCell ⟨g, k * 2 + 0, none⟩ (.int .i64 x)) J rb (.slice (some ⟨g, 0, none⟩) (A.la 0) cap) vv vt (A.put 0 (k + 1) x) fr st := by
  have hF : Fr (fun q => q = g) w (w.setCell ⟨g, k * 2 + 0, none⟩ (.int .i64 x)) := Fr.setCell (p := ⟨g, k * 2 + 0, none⟩) (Fr.refl (fun q => q = g) w) (.inl rfl) _
  obtain ⟨e1, e2, e3⟩ := h.ne
  obtain ⟨a1, a2⟩ := h.ap
  have hg : (Value.slice (some ⟨g, 0, none⟩) (A.la 0) cap).ownBlock = some g := rfl
  refine ⟨(hF.block _ h.lt (fun e => e1 (by rw [e]; exact hg))).trans h.bk, ?_, ?_, ?_, hok, h.la, h.jj, fun q hq => Nat.lt_of_lt_of_le (h.jl q hq) hF.size, h.j0⟩
  · refine h.rn.set hk (by decide) (.int .i64 x) ?_ (fun i' j' hi' hj' hne => ?_)
    · show nF (A.put 0 (k + 1) x) k 0 = _
      simp only [nF]
      rw [put_same]
    · show nF (A.put 0 (k + 1) x) i' j' = nF A i' j'
      have hv : ∀ f', ¬ (f' = 0 ∧ i' = k) → (A.put 0 (k + 1) x).va f' (i' + 1) = A.va f' (i' + 1) := fun f' hf => put_other (fun q => hf ⟨q.1, by omega⟩)
      rcases j' with _ | _ | j2
      · simp only [nF]
        rw [hv 0 (fun q => hne ⟨q.2, rfl⟩)]
      · simp only [nF]
        rw [hv 1 (fun q => by omega)]
      · omega
  · refine (h.rv.fr hF (fun b e z => (a1 g hg).1 (by rw [← z]; exact e))).eqv (fun i' hi' j' hj' => ?_)
    show vF (A.put 0 (k + 1) x) i' j' = vF A i' j'
    rcases j' with _ | _ | _ | _ | _ | j2
    · rfl
    · simp only [vF]
      rw [put_other (fun q => by omega)]
    · simp only [vF]
      rw [put_other (fun q => by omega)]
    · simp only [vF]
      rw [put_other (fun q => by omega)]
    · rfl
    · omega
  · refine (h.rt.fr hF (fun b e z => (a1 g hg).2 (by rw [← z]; exact e))).eqv (fun i' hi' j' hj' => ?_)
    show tF (A.put 0 (k + 1) x) i' j' = tF A i' j'
    rcases j' with _ | _ | j2
    · simp only [tF]
      rw [put_other (fun q => by omega)]
    · rfl
    · omega
theorem Rg.putLock {g cap k : Nat} (h : Rg w J rb (.slice (some ⟨g, 0, none⟩) (A.la 0) cap) vv vt A fr st) (hk : k < A.la 0) {x : Int} (hok : (A.put 1 (k + 1) x).ok) : Rg (w.setCell ⟨g, k * 2 + 1, none⟩ (.int .u64 x)) J rb (.slice (some ⟨g, 0, none⟩) (A.la 0) cap) vv vt (A.put 1 (k + 1) x) fr st := by
  have hF : Fr (fun q => q = g) w (w.setCell ⟨g, k * 2 + 1, none⟩ (.int .u64 x)) := Fr.setCell (p := ⟨g, k * 2 + 1, none⟩) (Fr.refl (fun q => q = g) w) (.inl rfl) _
  obtain ⟨e1, e2, e3⟩ := h.ne
  obtain ⟨a1, a2⟩ := h.ap
  have hg : (Value.slice (some ⟨g, 0, none⟩) (A.la 0) cap).ownBlock = some g := rfl
  refine ⟨(hF.block _ h.lt (fun e => e1 (by rw [e]; exact hg))).trans h.bk, ?_, ?_, ?_, hok, h.la, h.jj, fun q hq => Nat.lt_of_lt_of_le (h.jl q hq) hF.size, h.j0⟩
  · refine h.rn.set hk (by decide) (.int .u64 x) ?_ (fun i' j' hi' hj' hne => ?_)
    · show nF (A.put 1 (k + 1) x) k 1 = _
      simp only [nF]
      rw [put_same]
    · show nF (A.put 1 (k + 1) x) i' j' = nF A i' j'
      have hv : ∀ f', ¬ (f' = 1 ∧ i' = k) → (A.put 1 (k + 1) x).va f' (i' + 1) = A.va f' (i' + 1) := fun f' hf => put_other (fun q => hf ⟨q.1, by omega⟩)
      rcases j' with _ | _ | j2
      · simp only [nF]
        rw [hv 0 (fun q => by omega)]
      · simp only [nF]
        rw [hv 1 (fun q => hne ⟨q.2, rfl⟩)]
      · omega
  · refine (h.rv.fr hF (fun b e z => (a1 g hg).1 (by rw [← z]; exact e))).eqv (fun i' hi' j' hj' => ?_)
    show vF (A.put 1 (k + 1) x) i' j' = vF A i' j'
    rcases j' with _ | _ | _ | _ | _ | j2
    · rfl
    · simp only [vF]
      rw [put_other (fun q => by omega)]
    · simp only [vF]
      rw [put_other (fun q => by omega)]
    · simp only [vF]
      rw [put_other (fun q => by omega)]
    · rfl
    · omega
  · refine (h.rt.fr hF (fun b e z => (a1 g hg).2 (by rw [← z]; exact e))).eqv (fun i' hi' j' hj' => ?_)
    show tF (A.put 1 (k + 1) x) i' j' = tF A i' j'
    rcases j' with _ | _ | j2
    · simp only [tF]
      rw [put_other (fun q => by omega)]
    · rfl
    · omega
theorem Rg.putBegin {g cap k : Nat} (h : Rg w J rb vn (.slice (some ⟨g, 0, none⟩) (A.la 1) cap) vt A fr st) (hk : k < A.la 1) {x : Int} (hok : (A.put 2 (k + 1) x).ok) : Rg (w.setCell ⟨g, k * 5 + 1, none⟩ (.int .u64 x)) J rb vn (.slice (some ⟨g, 0, none⟩) (A.la 1) cap) vt (A.put 2 (k + 1) x) fr st := by
  have hF : Fr (fun q => q = g) w (w.setCell ⟨g, k * 5 + 1, none⟩ (.int .u64 x)) := Fr.setCell (p := ⟨g, k * 5 + 1, none⟩) (Fr.refl (fun q => q = g) w) (.inl rfl) _
  obtain ⟨e1, e2, e3⟩ := h.ne
  obtain ⟨a1, a2⟩ := h.ap
  have hg : (Value.slice (some ⟨g, 0, none⟩) (A.la 1) cap).ownBlock = some g := rfl
  refine ⟨(hF.block _ h.lt (fun e => e2 (by rw [e]; exact hg))).trans h.bk, ?_, ?_, ?_, hok, h.la, h.jj, fun q hq => Nat.lt_of_lt_of_le (h.jl q hq) hF.size, h.j0⟩
  · refine (h.rn.fr hF (fun b e z => (a1 b e).1 (by rw [z]; exact hg))).eqv (fun i' hi' j' hj' => ?_)
    show nF (A.put 2 (k + 1) x) i' j' = nF A i' j'
    rcases j' with _ | _ | j2
    · simp only [nF]
      rw [put_other (fun q => by omega)]
    · simp only [nF]
      rw [put_other (fun q => by omega)]
    · omega
  · refine h.rv.set hk (by decide) (.int .u64 x) ?_ (fun i' j' hi' hj' hne => ?_)
    · show vF (A.put 2 (k + 1) x) k 1 = _
      simp only [vF]
      rw [put_same]
    · show vF (A.put 2 (k + 1) x) i' j' = vF A i' j'
      have hv : ∀ f', ¬ (f' = 2 ∧ i' = k) → (A.put 2 (k + 1) x).va f' (i' + 1) = A.va f' (i' + 1) := fun f' hf => put_other (fun q => hf ⟨q.1, by omega⟩)
      rcases j' with _ | _ | _ | _ | _ | j2
      · rfl
      · simp only [vF]
        rw [hv 2 (fun q => hne ⟨q.2, rfl⟩)]
      · simp only [vF]
        rw [hv 3 (fun q => by omega)]
      · simp only [vF]
        rw [hv 4 (fun q => by omega)]
      · rfl
      · omega
  · refine (h.rt.fr hF (fun b e z => a2 g hg (by rw [← z]; exact e))).eqv (fun i' hi' j' hj' => ?_)
    show tF (A.put 2 (k + 1) x) i' j' = tF A i' j'
    rcases j' with _ | _ | j2
    · simp only [tF]
      rw [put_other (fun q => by omega)]
    · rfl
    · omega
theorem Rg.putEnd {g cap k : Nat} (h : Rg w J rb vn (.slice (some ⟨g, 0, none⟩) (A.la 1) cap) vt A fr st) (hk : k < A.la 1) {x : Int} (hok : (A.put 3 (k + 1) x).ok) : Rg (w.setCell ⟨g, k * 5 + 2, none⟩ (.int .u64 x)) J rb vn (.slice (some ⟨g, 0, none⟩) (A.la 1) cap) vt (A.put 3 (k + 1) x) fr st := by
  have hF : Fr (fun q => q = g) w (w.setCell ⟨g, k * 5 + 2, none⟩ (.int .u64 x)) := Fr.setCell (p := ⟨g, k * 5 + 2, none⟩) (Fr.refl (fun q => q = g) w) (.inl rfl) _
  obtain ⟨e1, e2, e3⟩ := h.ne
  obtain ⟨a1, a2⟩ := h.ap
  have hg : (Value.slice (some ⟨g, 0, none⟩) (A.la 1) cap).ownBlock = some g := rfl
  refine ⟨(hF.block _ h.lt (fun e => e2 (by rw [e]; exact hg))).trans h.bk, ?_, ?_, ?_, hok, h.la, h.jj, fun q hq => Nat.lt_of_lt_of_le (h.jl q hq) hF.size, h.j0⟩
  · refine (h.rn.fr hF (fun b e z => (a1 b e).1 (by rw [z]; exact hg))).eqv (fun i' hi' j' hj' => ?_)
    show nF (A.put 3 (k + 1) x) i' j' = nF A i' j'
    rcases j' with _ | _ | j2
    · simp only [nF]
      rw [put_other (fun q => by omega)]
    · simp only [nF]
      rw [put_other (fun q => by omega)]
    · omega
  · refine h.rv.set hk (by decide) (.int .u64 x) ?_ (fun i' j' hi' hj' hne => ?_)
    · show vF (A.put 3 (k + 1) x) k 2 = _
      simp only [vF]
      rw [put_same]
    · show vF (A.put 3 (k + 1) x) i' j' = vF A i' j'
      have hv : ∀ f', ¬ (f' = 3 ∧ i' = k) → (A.put 3 (k + 1) x).va f' (i' + 1) = A.va f' (i' + 1) := fun f' hf => put_other (fun q => hf ⟨q.1, by omega⟩)
      rcases j' with _ | _ | _ | _ | _ | j2
      · rfl
      · simp only [vF]
        rw [hv 2 (fun q => by omega)]
      · simp only [vF]
        rw [hv 3 (fun q => hne ⟨q.2, rfl⟩)]
      · simp only [vF]
        rw [hv 4 (fun q => by omega)]
      · rfl
      · omega
  · refine (h.rt.fr hF (fun b e z => a2 g hg (by rw [← z]; exact e))).eqv (fun i' hi' j' hj' => ?_)
    show tF (A.put 3 (k + 1) x) i' j' = tF A i' j'
    rcases j' with _ | _ | j2
    · simp only [tF]
      rw [put_other (fun q => by omega)]
    · rfl
    · omega
theorem Rg.putNext {g cap k : Nat} (h : Rg w J rb vn (.slice (some ⟨g, 0, none⟩) (A.la 1) cap) vt A fr st) (hk : k < A.la 1) {x : Int} (hok : (A.put 4 (k + 1) x).ok) : Rg (w.setCell ⟨g, k * 5 + 3, none⟩ (.int .i64 x)) J rb vn (.slice (some ⟨g, 0, none⟩) (A.la 1) cap) vt (A.put 4 (k + 1) x) fr st := by
  have hF : Fr (fun q => q = g) w (w.setCell ⟨g, k * 5 + 3, none⟩ (.int .i64 x)) := Fr.setCell (p := ⟨g, k * 5 + 3, none⟩) (Fr.refl (fun q => q = g) w) (.inl rfl) _
  obtain ⟨e1, e2, e3⟩ := h.ne
  obtain ⟨a1, a2⟩ := h.ap
  have hg : (Value.slice (some ⟨g, 0, none⟩) (A.la 1) cap).ownBlock = some g := rfl
  refine ⟨(hF.block _ h.lt (fun e => e2 (by rw [e]; exact hg))).trans h.bk, ?_, ?_, ?_, hok, h.la, h.jj, fun q hq => Nat.lt_of_lt_of_le (h.jl q hq) hF.size, h.j0⟩
  · refine (h.rn.fr hF (fun b e z => (a1 b e).1 (by rw [z]; exact hg))).eqv (fun i' hi' j' hj' => ?_)
    show nF (A.put 4 (k + 1) x) i' j' = nF A i' j'
    rcases j' with _ | _ | j2
    · simp only [nF]
      rw [put_other (fun q => by omega)]
    · simp only [nF]
      rw [put_other (fun q => by omega)]
    · omega
  · refine h.rv.set hk (by decide) (.int .i64 x) ?_ (fun i' j' hi' hj' hne => ?_)
    · show vF (A.put 4 (k + 1) x) k 3 = _
      simp only [vF]
      rw [put_same]
    · show vF (A.put 4 (k + 1) x) i' j' = vF A i' j'
      have hv : ∀ f', ¬ (f' = 4 ∧ i' = k) → (A.put 4 (k + 1) x).va f' (i' + 1) = A.va f' (i' + 1) := fun f' hf => put_other (fun q => hf ⟨q.1, by omega⟩)
      rcases j' with _ | _ | _ | _ | _ | j2
      · rfl
      · simp only [vF]
        rw [hv 2 (fun q => by omega)]
      · simp only [vF]
        rw [hv 3 (fun q => by omega)]
      · simp only [vF]
        rw [hv 4 (fun q => hne ⟨q.2, rfl⟩)]
      · rfl
      · omega
  · refine (h.rt.fr hF (fun b e z => a2 g hg (by rw [← z]; exact e))).eqv (fun i' hi' j' hj' => ?_)
    show tF (A.put 4 (k + 1) x) i' j' = tF A i' j'
    rcases j' with _ | _ | j2
    · simp only [tF]
      rw [put_other (fun q => by omega)]
    · rfl
    · omega
theorem Rg.goneV {g cap k : Nat} (h : Rg w J rb vn (.slice (some ⟨g, 0, none⟩) (A.la 1) cap) vt A fr st) (hk : k < A.la 1)  : Rg (w.setCell ⟨g, k * 5 + 4, none⟩ (.bool true)) J rb vn (.slice (some ⟨g, 0, none⟩) (A.la 1) cap) vt (A.off 1 (k + 1)) fr st := by
  have hF : Fr (fun q => q = g) w (w.setCell ⟨g, k * 5 + 4, none⟩ (.bool true)) := Fr.setCell (p := ⟨g, k * 5 + 4, none⟩) (Fr.refl (fun q => q = g) w) (.inl rfl) _
  obtain ⟨e1, e2, e3⟩ := h.ne
  obtain ⟨a1, a2⟩ := h.ap
  have hg : (Value.slice (some ⟨g, 0, none⟩) (A.la 1) cap).ownBlock = some g := rfl
  refine ⟨(hF.block _ h.lt (fun e => e2 (by rw [e]; exact hg))).trans h.bk, ?_, ?_, ?_, Stt.off_ok h.ok (by decide), h.la, h.jj, fun q hq => Nat.lt_of_lt_of_le (h.jl q hq) hF.size, h.j0⟩
  · refine (h.rn.fr hF (fun b e z => (a1 b e).1 (by rw [z]; exact hg))).eqv (fun i' hi' j' hj' => ?_)
    show nF (A.off 1 (k + 1)) i' j' = nF A i' j'
    rcases j' with _ | _ | j2
    · rfl
    · rfl
    · omega
  · refine h.rv.set hk (by decide) (.bool true) ?_ (fun i' j' hi' hj' hne => ?_)
    · show vF (A.off 1 (k + 1)) k 4 = _
      simp only [vF]
      rw [off_same]
      rfl
    · show vF (A.off 1 (k + 1)) i' j' = vF A i' j'
      rcases j' with _ | _ | _ | _ | _ | j2
      · rfl
      · rfl
      · rfl
      · rfl
      · simp only [vF]
        have hi2 : i' ≠ k := fun e => hne ⟨e, rfl⟩
        rw [off_other (fun q => hi2 (by omega))]
      · omega
  · refine (h.rt.fr hF (fun b e z => a2 g hg (by rw [← z]; exact e))).eqv (fun i' hi' j' hj' => ?_)
    show tF (A.off 1 (k + 1)) i' j' = tF A i' j'
    rcases j' with _ | _ | j2
    · rfl
    · simp only [tF]
      rw [off_other (fun q => by omega)]
    · omega
theorem Rg.putState {g cap k : Nat} (h : Rg w J rb vn vv (.slice (some ⟨g, 0, none⟩) (A.la 2) cap) A fr st) (hk : k < A.la 2) {x : Int} (hok : (A.put 5 (k + 1) x).ok) : Rg (w.setCell ⟨g, k * 2 + 0, none⟩ (.int .u64 x)) J rb vn vv (.slice (some ⟨g, 0, none⟩) (A.la 2) cap) (A.put 5 (k + 1) x) fr st := by
  have hF : Fr (fun q => q = g) w (w.setCell ⟨g, k * 2 + 0, none⟩ (.int .u64 x)) := Fr.setCell (p := ⟨g, k * 2 + 0, none⟩) (Fr.refl (fun q => q = g) w) (.inl rfl) _
  obtain ⟨e1, e2, e3⟩ := h.ne
  obtain ⟨a1, a2⟩ := h.ap
  have hg : (Value.slice (some ⟨g, 0, none⟩) (A.la 2) cap).ownBlock = some g := rfl
  refine ⟨(hF.block _ h.lt (fun e => e3 (by rw [e]; exact hg))).trans h.bk, ?_, ?_, ?_, hok, h.la, h.jj, fun q hq => Nat.lt_of_lt_of_le (h.jl q hq) hF.size, h.j0⟩
  · refine (h.rn.fr hF (fun b e z => (a1 b e).2 (by rw [z]; exact hg))).eqv (fun i' hi' j' hj' => ?_)
    show nF (A.put 5 (k + 1) x) i' j' = nF A i' j'
    rcases j' with _ | _ | j2
    · simp only [nF]
      rw [put_other (fun q => by omega)]
    · simp only [nF]
      rw [put_other (fun q => by omega)]
    · omega
  · refine (h.rv.fr hF (fun b e z => a2 b e (by rw [z]; exact hg))).eqv (fun i' hi' j' hj' => ?_)
    show vF (A.put 5 (k + 1) x) i' j' = vF A i' j'
    rcases j' with _ | _ | _ | _ | _ | j2
    · rfl
    · simp only [vF]
      rw [put_other (fun q => by omega)]
    · simp only [vF]
      rw [put_other (fun q => by omega)]
    · simp only [vF]
      rw [put_other (fun q => by omega)]
    · rfl
    · omega
  · refine h.rt.set hk (by decide) (.int .u64 x) ?_ (fun i' j' hi' hj' hne => ?_)
    · show tF (A.put 5 (k + 1) x) k 0 = _
      simp only [tF]
      rw [put_same]
    · show tF (A.put 5 (k + 1) x) i' j' = tF A i' j'
      have hv : ∀ f', ¬ (f' = 5 ∧ i' = k) → (A.put 5 (k + 1) x).va f' (i' + 1) = A.va f' (i' + 1) := fun f' hf => put_other (fun q => hf ⟨q.1, by omega⟩)
      rcases j' with _ | _ | j2
      · simp only [tF]
        rw [hv 5 (fun q => hne ⟨q.2, rfl⟩)]
      · rfl
      · omega
theorem Rg.goneT {g cap k : Nat} (h : Rg w J rb vn vv (.slice (some ⟨g, 0, none⟩) (A.la 2) cap) A fr st) (hk : k < A.la 2)  : Rg (w.setCell ⟨g, k * 2 + 1, none⟩ (.bool true)) J rb vn vv (.slice (some ⟨g, 0, none⟩) (A.la 2) cap) (A.off 2 (k + 1)) fr st := by
  have hF : Fr (fun q => q = g) w (w.setCell ⟨g, k * 2 + 1, none⟩ (.bool true)) := Fr.setCell (p := ⟨g, k * 2 + 1, none⟩) (Fr.refl (fun q => q = g) w) (.inl rfl) _
  obtain ⟨e1, e2, e3⟩ := h.ne
  obtain ⟨a1, a2⟩ := h.ap
  have hg : (Value.slice (some ⟨g, 0, none⟩) (A.la 2) cap).ownBlock = some g := rfl
  refine ⟨(hF.block _ h.lt (fun e => e3 (by rw [e]; exact hg))).trans h.bk, ?_, ?_, ?_, Stt.off_ok h.ok (by decide), h.la, h.jj, fun q hq => Nat.lt_of_lt_of_le (h.jl q hq) hF.size, h.j0⟩
  · refine (h.rn.fr hF (fun b e z => (a1 b e).2 (by rw [z]; exact hg))).eqv (fun i' hi' j' hj' => ?_)
    show nF (A.off 2 (k + 1)) i' j' = nF A i' j'
    rcases j' with _ | _ | j2
    · rfl
    · rfl
    · omega
  · refine (h.rv.fr hF (fun b e z => a2 b e (by rw [z]; exact hg))).eqv (fun i' hi' j' hj' => ?_)
    show vF (A.off 2 (k + 1)) i' j' = vF A i' j'
    rcases j' with _ | _ | _ | _ | _ | j2
    · rfl
    · rfl
    · rfl
    · rfl
    · simp only [vF]
      rw [off_other (fun q => by omega)]
    · omega
  · refine h.rt.set hk (by decide) (.bool true) ?_ (fun i' j' hi' hj' hne => ?_)
    · show tF (A.off 2 (k + 1)) k 1 = _
      simp only [tF]
      rw [off_same]
      rfl
    · show tF (A.off 2 (k + 1)) i' j' = tF A i' j'
      rcases j' with _ | _ | j2
      · rfl
      · simp only [tF]
        have hi2 : i' ≠ k := fun e => hne ⟨e, rfl⟩
        rw [off_other (fun q => hi2 (by omega))]
      · omega
theorem Rg.fin {A' : Stt} {fr' st' : Int} {vn' vv' vt' : Value} (h : Rg w J rb vn vv vt A fr st) (h' : Rg w' J rb vn' vv' vt' A' fr' st') (hF : Fr J w w') : Raf w w' J rb A' fr' st' := ⟨J, ⟨_, _, _, h'⟩, fun _ _ => Iff.rfl, hF⟩
end
end Go.Proofs.YtfhcphgjaobnoaaDoor
