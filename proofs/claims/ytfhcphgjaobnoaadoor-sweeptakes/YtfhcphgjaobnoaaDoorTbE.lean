/-
  The document's store in memory.
-/
import Derived.Test.YtfhcphgjaobnoaaDoorTbD
import Derived.Test.YtfhcphgjaobnoaaDoorWd5
import Derived.Laws.OwnMore
set_option linter.unusedVariables false
set_option linter.unusedSimpArgs false
namespace Go.Proofs.YtfhcphgjaobnoaaDoor
open Go.RowKit Go.Maps

/-- A row of things of k cells each. -/
def Fw (w : World) (e : TypeId) (k : Nat) (v : Value) (n : Nat) (f : Nat → Nat → Value) : Prop := ∃ xs, w.ownsRow 1 e k v n xs ∧ ∀ i, i < n → ∀ j, j < k → xs[i * k + j]? = some (f i j)
section
variable {w w' : World} {e : TypeId} {k n : Nat} {v : Value} {f f' : Nat → Nat → Value}
theorem Fw.start : Fw w e k (.slice none 0 0) 0 f := ⟨[], ⟨by simp, .inl ⟨rfl, rfl⟩⟩, fun i h => by omega⟩
theorem Fw.form (h : Fw w e k v n f) : ∃ ao cap, v = .slice ao n cap := by
  obtain ⟨xs, ho, _⟩ := h
  rcases ho.2 with ⟨a, b⟩ | ⟨g, cap, cur, a, _⟩
  · exact ⟨none, 0, by rw [a, b]⟩
  · exact ⟨_, _, a⟩
theorem Fw.at (h : Fw w e k v n f) {i : Nat} (hi : i < n) : ∃ g cap, v = .slice (some ⟨g, 0, none⟩) n cap ∧ (∀ j, j < k → w.cell? ⟨g, i * k + j, none⟩ = some (f i j)) ∧ ∀ j, w.frozen? ⟨g, j, none⟩ = false := by
  obtain ⟨xs, ho, hx⟩ := h
  rcases ho.2 with ⟨a, b⟩ | ⟨g, cap, cur, a, _⟩
  · omega
  · subst a
    refine ⟨g, cap, rfl, fun j hj => ?_, fun j => ho.frozenAt j⟩
    have : i * k + j < n * k := by
      have : i * k + k ≤ n * k := by rw [← Nat.succ_mul]; exact Nat.mul_le_mul_right _ hi
      omega
    rw [ho.cellAt _ this]
    exact hx i hi j hj
theorem Fw.kind (h : Fw w e k v n f) {b : Nat} (hb : v.ownBlock = some b) : ∃ c fz, w.heap[b]? = some (.cells c e fz) := by
  obtain ⟨xs, ho, _⟩ := h
  exact Go.Lib.ownsRow_kind ho b hb
theorem Fw.lt (h : Fw w e k v n f) {b : Nat} (hb : v.ownBlock = some b) : 1 ≤ b ∧ b < w.heap.size := by
  obtain ⟨xs, ho, _⟩ := h
  exact World.ownsRow.lt ho b hb
theorem Fw.fr {G : Nat → Prop} (h : Fw w e k v n f) (hF : Fr G w w') (hn : ∀ b, v.ownBlock = some b → ¬ G b) : Fw w' e k v n f := by
  obtain ⟨xs, ho, hx⟩ := h
  exact ⟨xs, hrow_fr ho hF hn, hx⟩
theorem Fw.eqv (h : Fw w e k v n f) (he : ∀ i, i < n → ∀ j, j < k → f' i j = f i j) : Fw w e k v n f' := by
  obtain ⟨xs, ho, hx⟩ := h
  exact ⟨xs, ho, fun i hi j hj => by rw [he i hi j hj]; exact hx i hi j hj⟩
theorem Fw.set {g cap : Nat} (h : Fw w e k (.slice (some ⟨g, 0, none⟩) n cap) n f) {i j : Nat} (hi : i < n) (hj : j < k) (u : Value) (he : f' i j = u) (ho : ∀ i' j', i' < n → j' < k → ¬ (i' = i ∧ j' = j) → f' i' j' = f i' j') :
    Fw (w.setCell ⟨g, i * k + j, none⟩ u) e k (.slice (some ⟨g, 0, none⟩) n cap) n f' := by
  obtain ⟨xs, hr, hx⟩ := h
  refine ⟨_, (hr.stored (i * k + j) u).1, fun i' hi' j' hj' => ?_⟩
  rw [List.getElem?_set]
  by_cases q : i' = i ∧ j' = j
  · obtain ⟨rfl, rfl⟩ := q
    have h1 := hx i' hi' j' hj'
    have hl := (List.getElem?_eq_some_iff.1 h1).1
    rw [if_pos rfl, if_pos hl, he]
  · have hne : i * k + j ≠ i' * k + j' := fun e => q (by
      have h1 : (i * k + j) / k = (i' * k + j') / k := by rw [e]
      have h2 : (i * k + j) % k = (i' * k + j') % k := by rw [e]
      have hk : 0 < k := by omega
      rw [Nat.mul_comm i k, Nat.mul_comm i' k, Nat.mul_add_div hk, Nat.mul_add_div hk, Nat.div_eq_of_lt hj, Nat.div_eq_of_lt hj'] at h1
      rw [Nat.mul_comm i k, Nat.mul_comm i' k, Nat.mul_add_mod, Nat.mul_add_mod, Nat.mod_eq_of_lt hj, Nat.mod_eq_of_lt hj'] at h2
      exact ⟨by omega, h2.symm⟩)
    rw [if_neg hne, ho i' j' hi' hj' q]
    exact hx i' hi' j' hj'
theorem Fw.snoc {v' : Value} {ys : List Value} {xs : List Value} (hx : ∀ i, i < n → ∀ j, j < k → xs[i * k + j]? = some (f i j)) (hl : xs.length = n * k) (h : w'.ownsRow 1 e k v' (n + 1) (xs ++ ys)) (h1 : ∀ i, i < n → ∀ j, j < k → f' i j = f i j) (h2 : ∀ j, j < k → ys[j]? = some (f' n j)) : Fw w' e k v' (n + 1) f' := by
  refine ⟨_, h, fun i hi j hj => ?_⟩
  by_cases q : i < n
  · have hlt : i * k + j < n * k := by
      have : i * k + k ≤ n * k := by rw [← Nat.succ_mul]; exact Nat.mul_le_mul_right _ q
      omega
    rw [h1 i q j hj, List.getElem?_append_left (by rw [hl]; exact hlt)]
    exact hx i q j hj
  · have e : i = n := by omega
    subst e
    rw [List.getElem?_append_right (by rw [hl]; omega), hl, show i * k + j - i * k = j by omega]
    exact h2 j hj
end

def nF (A : Stt) (i j : Nat) : Value := match j with | 0 => .int .i64 (A.va 0 (i + 1)) | _ => .int .u64 (A.va 1 (i + 1))
def vF (A : Stt) (i j : Nat) : Value := match j with | 0 => .string (A.tx (i + 1)) | 1 => .int .u64 (A.va 2 (i + 1)) | 2 => .int .u64 (A.va 3 (i + 1)) | 3 => .int .i64 (A.va 4 (i + 1)) | _ => .bool (!A.lv 1 (i + 1))
def tF (A : Stt) (i j : Nat) : Value := match j with | 0 => .int .u64 (A.va 5 (i + 1)) | _ => .bool (!A.lv 2 (i + 1))
/-- The document's store: its blocks are among J's. -/
structure Rg (w : World) (J : Nat → Prop) (rb : Nat) (vn vv vt : Value) (A : Stt) (fr st : Int) : Prop where
  bk : w.heap[rb]? = some (.cells #[vn, vv, vt, .int .i64 fr, .int .i64 st] 71 (0, 0))
  rn : Fw w 75 2 vn (A.la 0) (nF A)
  rv : Fw w 85 5 vv (A.la 1) (vF A)
  rt : Fw w 167 2 vt (A.la 2) (tF A)
  ok : A.ok
  la : ∀ c, A.la c ≤ 1000000
  jj : ∀ j, (j = rb ∨ vn.ownBlock = some j ∨ vv.ownBlock = some j ∨ vt.ownBlock = some j) → J j
  jl : ∀ j, J j → j < w.heap.size
  j0 : ¬ J 0
def Rf (w : World) (J : Nat → Prop) (rb : Nat) (A : Stt) (fr st : Int) : Prop := ∃ vn vv vt, Rg w J rb vn vv vt A fr st
/-- What a call of the document's leaves. -/
def Raf (w w' : World) (J : Nat → Prop) (rb : Nat) (A : Stt) (fr st : Int) : Prop := ∃ J', Rf w' J' rb A fr st ∧ (∀ j, j < w.heap.size → (J' j ↔ J j)) ∧ Fr J w w'
def lvI (A : Stt) (c : Nat) (n : Int) : Bool := decide (0 ≤ n) && A.lv c n.toNat
section
variable {w w' : World} {J : Nat → Prop} {rb : Nat} {vn vv vt : Value} {A : Stt} {fr st : Int}
theorem Rg.lt (h : Rg w J rb vn vv vt A fr st) : rb < w.heap.size := (Array.getElem?_eq_some_iff.1 h.bk).1
theorem Rg.cells (h : Rg w J rb vn vv vt A fr st) : w.cell? ⟨rb, 0, none⟩ = some vn ∧ w.cell? ⟨rb, 1, none⟩ = some vv ∧ w.cell? ⟨rb, 2, none⟩ = some vt ∧ w.cell? ⟨rb, 3, none⟩ = some (.int .i64 fr) ∧ w.cell? ⟨rb, 4, none⟩ = some (.int .i64 st) := by
  have h := h.bk
  refine ⟨?_, ?_, ?_, ?_, ?_⟩ <;> (rw [Go.Joins.cell_of_block h]; rfl)
theorem Rg.free (h : Rg w J rb vn vv vt A fr st) (i : Nat) : w.frozen? ⟨rb, i, none⟩ = false := Go.Joins.unfrozen_of_block h.bk i
theorem Rg.ne (h : Rg w J rb vn vv vt A fr st) : vn.ownBlock ≠ some rb ∧ vv.ownBlock ≠ some rb ∧ vt.ownBlock ≠ some rb := by
  refine ⟨fun e => ?_, fun e => ?_, fun e => ?_⟩
  · obtain ⟨c, fz, hb⟩ := h.rn.kind e
    rw [h.bk] at hb; simp at hb
  · obtain ⟨c, fz, hb⟩ := h.rv.kind e
    rw [h.bk] at hb; simp at hb
  · obtain ⟨c, fz, hb⟩ := h.rt.kind e
    rw [h.bk] at hb; simp at hb
theorem Rg.ap (h : Rg w J rb vn vv vt A fr st) : (∀ j, vn.ownBlock = some j → vv.ownBlock ≠ some j ∧ vt.ownBlock ≠ some j) ∧ (∀ j, vv.ownBlock = some j → vt.ownBlock ≠ some j) := by
  refine ⟨fun j e => ⟨fun e2 => ?_, fun e2 => ?_⟩, fun j e e2 => ?_⟩
  · obtain ⟨c, fz, hb⟩ := h.rn.kind e
    obtain ⟨c2, fz2, hb2⟩ := h.rv.kind e2
    rw [hb] at hb2; simp at hb2
  · obtain ⟨c, fz, hb⟩ := h.rn.kind e
    obtain ⟨c2, fz2, hb2⟩ := h.rt.kind e2
    rw [hb] at hb2; simp at hb2
  · obtain ⟨c, fz, hb⟩ := h.rv.kind e
    obtain ⟨c2, fz2, hb2⟩ := h.rt.kind e2
    rw [hb] at hb2; simp at hb2
theorem Rg.keep {G : Nat → Prop} (h : Rg w J rb vn vv vt A fr st) (hF : Fr G w w') (hG : ∀ j, J j → ¬ G j) : Rg w' J rb vn vv vt A fr st :=
  ⟨(hF.block _ h.lt (hG rb (h.jj rb (.inl rfl)))).trans h.bk, h.rn.fr hF (fun b e => hG b (h.jj b (.inr (.inl e)))), h.rv.fr hF (fun b e => hG b (h.jj b (.inr (.inr (.inl e))))), h.rt.fr hF (fun b e => hG b (h.jj b (.inr (.inr (.inr e))))), h.ok, h.la, h.jj, fun j hj => Nat.lt_of_lt_of_le (h.jl j hj) hF.size, h.j0⟩
theorem Rf.keep {G : Nat → Prop} (h : Rf w J rb A fr st) (hF : Fr G w w') (hG : ∀ j, J j → ¬ G j) : Rf w' J rb A fr st := by
  obtain ⟨vn, vv, vt, h⟩ := h
  exact ⟨vn, vv, vt, h.keep hF hG⟩
theorem Raf.same (h : Rf w J rb A fr st) : Raf w w J rb A fr st := ⟨J, h, fun _ _ => Iff.rfl, Fr.refl _ _⟩
/-- One more step. -/
theorem Rg.step (h : Rg w J rb vn vv vt A fr st) (n : Int) : Rg (w.setCell ⟨rb, 4, none⟩ (.int .i64 n)) J rb vn vv vt A fr n := by
  have hF : Fr (fun j => j = rb) w (w.setCell ⟨rb, 4, none⟩ (.int .i64 n)) := Fr.setCell (p := ⟨rb, 4, none⟩) (Fr.refl (fun j => j = rb) w) (.inl rfl) _
  obtain ⟨e1, e2, e3⟩ := h.ne
  refine ⟨by rw [Go.Joins.block_setCell h.bk]; rfl, h.rn.fr hF (fun b e q => e1 (q ▸ e)), h.rv.fr hF (fun b e q => e2 (q ▸ e)), h.rt.fr hF (fun b e q => e3 (q ▸ e)), h.ok, h.la, h.jj, fun j hj => Nat.lt_of_lt_of_le (h.jl j hj) hF.size, h.j0⟩
theorem Rg.frs (h : Rg w J rb vn vv vt A fr st) (n : Int) : Rg (w.setCell ⟨rb, 3, none⟩ (.int .i64 n)) J rb vn vv vt A n st := by
  have hF : Fr (fun j => j = rb) w (w.setCell ⟨rb, 3, none⟩ (.int .i64 n)) := Fr.setCell (p := ⟨rb, 3, none⟩) (Fr.refl (fun j => j = rb) w) (.inl rfl) _
  obtain ⟨e1, e2, e3⟩ := h.ne
  refine ⟨by rw [Go.Joins.block_setCell h.bk]; rfl, h.rn.fr hF (fun b e q => e1 (q ▸ e)), h.rv.fr hF (fun b e q => e2 (q ▸ e)), h.rt.fr hF (fun b e q => e3 (q ▸ e)), h.ok, h.la, h.jj, fun j hj => Nat.lt_of_lt_of_le (h.jl j hj) hF.size, h.j0⟩

theorem lvI_out {c : Nat} {n : Int} (h : A.ok) (hn : n < 1 ∨ (A.la c : Int) < n) : lvI A c n = false := by
  unfold lvI
  by_cases q : 0 ≤ n
  · cases e : A.lv c n.toNat with
    | false => simp
    | true => have := h.n1 _ _ e; omega
  · simp [q]
theorem lvI_at (c k : Nat) : lvI A c ((k : Int) + 1) = A.lv c (k + 1) := by
  unfold lvI
  rw [show ((k : Int) + 1).toNat = k + 1 by omega]
  simp
  omega
set_option maxRecDepth 100000 in
set_option maxHeartbeats 4000000 in
theorem rnode_any (h : Rg w J rb vn vv vt A fr st) (n : Int) : Calls Tryd.prog 40 #[.pointer (some ⟨rb, 0, none⟩), .int .i64 n] w fun e w' => e = .returned (.bool (lvI A 0 n)) ∧ w' = w := by
  obtain ⟨c0, c1, c2, c3, c4⟩ := h.cells
  obtain ⟨ao, cp, ev⟩ := h.rn.form
  subst ev
  have hok := h.ok
  by_cases h1 : 1 ≤ n
  · by_cases h2 : n ≤ A.la 0
    · have e1 : lvI A 0 n = true := by
        obtain ⟨k, rfl⟩ : ∃ k : Nat, n = (k : Int) + 1 := ⟨(n - 1).toNat, by omega⟩
        rw [lvI_at]
        exact hok.nd _ (by omega) (by omega)
      have d1 : decide (1 ≤ n) = true := by simp [h1]
      have d2 : decide (n ≤ (A.la 0 : Int)) = true := by simp [h2]
      rw [e1]
      clear h hok e1
      go_enter Tryd.func40, Tryd.ntmps40
      go_wp2
      go_ret
      exact ⟨rfl, rfl⟩
    · have e1 : lvI A 0 n = false := lvI_out hok (.inr (by omega))
      have d1 : decide (1 ≤ n) = true := by simp [h1]
      have d2 : decide (n ≤ (A.la 0 : Int)) = false := by simp; omega
      rw [e1]
      clear h hok e1
      go_enter Tryd.func40, Tryd.ntmps40
      go_wp2
      go_ret
      exact ⟨rfl, rfl⟩
  · have e1 : lvI A 0 n = false := lvI_out hok (.inl (by omega))
    have d1 : decide (1 ≤ n) = false := by simp; omega
    rw [e1]
    clear h hok e1
    go_enter Tryd.func40, Tryd.ntmps40
    go_wp2
    go_ret
    exact ⟨rfl, rfl⟩
set_option maxRecDepth 100000 in
set_option maxHeartbeats 4000000 in
theorem rversion_any (h : Rg w J rb vn vv vt A fr st) (n : Int) : Calls Tryd.prog 64 #[.pointer (some ⟨rb, 0, none⟩), .int .i64 n] w fun e w' => e = .returned (.bool (lvI A 1 n)) ∧ w' = w := by
  obtain ⟨c0, c1, c2, c3, c4⟩ := h.cells
  have hok := h.ok
  have hla := h.la 1
  by_cases h1 : 1 ≤ n
  · by_cases h2 : n ≤ A.la 1
    · obtain ⟨k, rfl⟩ : ∃ k : Nat, n = (k : Int) + 1 := ⟨(n - 1).toNat, by omega⟩
      obtain ⟨g, cp, ev, hc, hfz⟩ := h.rv.at (i := k) (by omega)
      subst ev
      have c5 : w.cell? ⟨g, k * 5 + 4, none⟩ = some (.bool (!A.lv 1 (k + 1))) := hc 4 (by omega)
      have d1 : decide (1 ≤ (k : Int) + 1) = true := by simp; omega
      have d2 : decide ((k : Int) + 1 ≤ (A.la 1 : Int)) = true := by simp; omega
      have d3 : (k : Int) < (A.la 1 : Int) := by omega
      have d4 : ¬ ((k : Int) < 0) := by omega
      rw [lvI_at]
      generalize A.lv 1 (k + 1) = B at c5 ⊢
      clear h hok hc hfz
      cases B with
      | true =>
        go_enter Tryd.func64, Tryd.ntmps64
        go_wp2
        go_ret
        exact ⟨rfl, rfl⟩
      | false =>
        go_enter Tryd.func64, Tryd.ntmps64
        go_wp2
        go_ret
        exact ⟨rfl, rfl⟩
    · have e1 : lvI A 1 n = false := lvI_out hok (.inr (by omega))
      obtain ⟨ao, cp, ev⟩ := h.rv.form
      subst ev
      have d1 : decide (1 ≤ n) = true := by simp [h1]
      have d2 : decide (n ≤ (A.la 1 : Int)) = false := by simp; omega
      rw [e1]
      clear h hok e1
      go_enter Tryd.func64, Tryd.ntmps64
      go_wp2
      go_ret
      exact ⟨rfl, rfl⟩
  · have e1 : lvI A 1 n = false := lvI_out hok (.inl (by omega))
    have d1 : decide (1 ≤ n) = false := by simp; omega
    rw [e1]
    clear h hok e1
    go_enter Tryd.func64, Tryd.ntmps64
    go_wp2
    go_ret
    exact ⟨rfl, rfl⟩
end
end Go.Proofs.YtfhcphgjaobnoaaDoor
