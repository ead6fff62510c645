/-
  The same for a disk whose blocks are a set, so that two disks may lie between each other.
-/
import Derived.Test.YtolaagbdnchhiaaRepCrash
set_option linter.unusedVariables false
set_option linter.unusedSimpArgs false
namespace Go.Proofs.Ytolaagbdnchhiaa.Land
open Go.RowKit Go.Maps

/-- Files in memory. -/
def Fils (w : World) (K : Nat → Prop) (fil : Nat → Option (List Int × Nat)) (vf : Nat → Value) : Prop :=
  (∀ f x, fil f = some x → Fl w f (vf f) x.2 ∧ Own w 0 (vf f) x.1 ∧ Byt x.1 ∧ x.2 ≤ x.1.length ∧ x.1.length ≤ 262144 ∧ K f ∧ ∀ j, (vf f).ownBlock = some j → K j) ∧
  ∀ f g x y j, fil f = some x → fil g = some y → (vf f).ownBlock = some j → (vf g).ownBlock = some j → f = g

theorem Fils.same {w w' : World} {K : Nat → Prop} {fil : Nat → Option (List Int × Nat)} {vf : Nat → Value} (h : Fils w K fil vf)
    (e : ∀ (j : Nat) (cur : Array Value) (t : TypeId), t = 81 ∨ t = 5 → w.heap[j]? = some (Obj.cells cur t (0, 0)) → w'.heap[j]? = w.heap[j]?) : Fils w' K fil vf := by
  refine ⟨fun f x hf => ?_, h.2⟩
  obtain ⟨h1, h2, h3⟩ := h.1 f x hf
  refine ⟨(e _ _ _ (.inl rfl) h1).trans h1, row_same h2 fun j hj => ?_, h3⟩
  obtain ⟨cur, hh, _⟩ := row_block h2 hj
  exact e _ _ _ (.inr rfl) hh

/-- What a change has laid by. -/
def boxes : Value → List Nat
  | .func _ _ cs => cs.toList.filterMap fun v => match v with | .pointer (some a) => some a.block | _ => none
  | _ => []
theorem boxes_mk (f n : Nat) : boxes (mkCl f n) = [f, n] := rfl
theorem boxes_dl (n : Nat) : boxes (dlCl n) = [n] := rfl
theorem boxes_rn (n m : Nat) : boxes (rnCl n m) = [n, m] := rfl
theorem chat_boxes {w w' : World} {c : Value} {ch : Ch} (h : ChAt w c ch) (e : ∀ j ∈ boxes c, w'.heap[j]? = w.heap[j]?) : ChAt w' c ch := by
  cases ch with
  | mk s f =>
    obtain ⟨fb, nb, rfl, h1, h2, h3⟩ := h
    exact ⟨fb, nb, rfl, (e _ (by simp [boxes_mk])).trans h1, (e _ (by simp [boxes_mk])).trans h2, h3⟩
  | del s =>
    obtain ⟨nb, rfl, h1, h3⟩ := h
    exact ⟨nb, rfl, (e _ (by simp [boxes_dl])).trans h1, h3⟩
  | ren s t =>
    obtain ⟨nb, mb, rfl, h1, h2, h3, h4⟩ := h
    exact ⟨nb, mb, rfl, (e _ (by simp [boxes_rn])).trans h1, (e _ (by simp [boxes_rn])).trans h2, h3, h4⟩
theorem boxes_lt {w : World} {c : Value} {ch : Ch} (h : ChAt w c ch) : ∀ j ∈ boxes c, j < w.heap.size := fun j hj => by
  cases ch with
  | mk s f =>
    obtain ⟨fb, nb, rfl, h1, h2, h3⟩ := h
    rw [boxes_mk] at hj
    simp at hj
    rcases hj with rfl | rfl
    · exact h2.lt
    · exact h1.lt
  | del s =>
    obtain ⟨nb, rfl, h1, h3⟩ := h
    rw [boxes_dl] at hj
    simp at hj
    subst hj
    exact h1.lt
  | ren s t =>
    obtain ⟨nb, mb, rfl, h1, h2, h3, h4⟩ := h
    rw [boxes_rn] at hj
    simp at hj
    rcases hj with rfl | rfl
    · exact h1.lt
    · exact h2.lt
structure Mem (w : World) (K : Nat → Prop) (d : Nat) (S : AD) (nb sb : Option Nat) (sv : Value) (cs : List Value) (vf : Nat → Value) : Prop where
  dk : Dk w d (.map nb) (.map sb) sv S.ops S.cutAt S.cuts S.gone
  now : Dir w nb S.now
  syn : Dir w sb S.syn
  nlo : ∀ j, nb = some j → K j
  slo : ∀ j, sb = some j → K j
  ne : ∀ j, nb = some j → sb ≠ some j
  row : w.ownsRow 0 83 1 sv S.chs.length cs
  rlo : ∀ j, sv.ownBlock = some j → K j
  chs : ∀ (i : Nat) (ch : Ch), S.chs[i]? = some ch → ∃ c, cs[i]? = some c ∧ ChAt w c ch ∧ ∀ j ∈ boxes c, K j
  fils : Fils w K S.fil vf

def Rep (w : World) (K : Nat → Prop) (d : Nat) (S : AD) : Prop := ∃ nb sb sv cs vf, Mem w K d S nb sb sv cs vf

section
variable {w w' : World} {K : Nat → Prop} {d : Nat} {S : AD} {nb sb : Option Nat} {sv : Value} {cs : List Value} {vf : Nat → Value}

theorem Mem.same (M : Mem w K d S nb sb sv cs vf) (e : ∀ j, j < w.heap.size → w'.heap[j]? = w.heap[j]?) : Mem w' K d S nb sb sv cs vf := by
  have ec : ∀ (j : Nat) (cur : Array Value) (t : TypeId), w.heap[j]? = some (Obj.cells cur t (0, 0)) → w'.heap[j]? = w.heap[j]? := fun j cur t h => e j (Array.getElem?_eq_some_iff.1 h).1
  refine ⟨M.dk.same (e _ M.dk.lt), Dir.same M.now fun j h => e j (dir_lt M.now j h), Dir.same M.syn fun j h => e j (dir_lt M.syn j h), M.nlo, M.slo, M.ne, row_same M.row fun j h => ?_, M.rlo, fun i ch hi => ?_, M.fils.same fun j cur t _ => ec j cur t⟩
  · obtain ⟨cur, hh, _⟩ := row_block M.row h
    exact ec _ _ _ hh
  · obtain ⟨c, h1, h2, hbx⟩ := M.chs i ch hi
    exact ⟨c, h1, h2.same2 (fun j cur t _ => ec j cur t), hbx⟩
theorem Rep.below (h : Rep w K d S) (hb : Below w.heap.size w w') : Rep w' K d S := by
  obtain ⟨nb, sb, sv, cs, vf, M⟩ := h
  exact ⟨nb, sb, sv, cs, vf, M.same fun j hj => hb.block j hj⟩

theorem Mem.change (M : Mem w K d S nb sb sv cs vf) (hK : ∀ j, w.heap.size ≤ j → K j) {b n' : Nat} {sv' c : Value} {ch : Ch} {D' : DataW Value} {fil' : Nat → Option (List Int × Nat)} {vf' : Nat → Value} (hbn : nb = some b ∨ nb = none ∧ w.heap.size ≤ b)
    (dk' : Dk w' d (.map (some b)) (.map sb) sv' (S.ops + 1) S.cutAt S.cuts S.gone) (own' : w'.ownsMap Try.prog 9 RV b n' D') (row' : w'.ownsRow 0 83 1 sv' (S.chs.length + 1) (cs ++ [c])) (hc : ChAt w' c ch) (hbc : ∀ j ∈ boxes c, K j)
    (hsv : sv'.ownBlock = sv.ownBlock ∨ ∃ j, sv'.ownBlock = some j ∧ w.heap.size ≤ j) (F : Fr (fun j => j = d ∨ nb = some j ∨ sv.ownBlock = some j) w w') (hf : Fils w' K fil' vf') :
    Mem w' K d { S with now := D', chs := S.chs ++ [ch], fil := fil', ops := S.ops + 1 } (some b) sb sv' (cs ++ [c]) vf' := by
  have hcl : cs.length = S.chs.length := by have := M.row.1; omega
  refine ⟨dk', .inr ⟨b, n', rfl, own'⟩, Dir.same M.syn fun j h => F.block j (dir_lt M.syn j h) ?_, fun j h => ?_, M.slo, fun j h hs => ?_, ?_, fun j h => ?_, fun i ch' hi => ?_, hf⟩
  · rintro (e | e | e)
    · subst e; exact dir_cells M.syn M.dk h
    · exact M.ne j e h
    · obtain ⟨cur, hh, _⟩ := row_block M.row e
      exact dir_cells M.syn hh h
  · cases h
    rcases hbn with e | ⟨_, e⟩
    · exact M.nlo _ e
    · exact hK _ e
  · cases h
    rcases hbn with e | ⟨_, e⟩
    · exact M.ne _ e hs
    · have := dir_lt M.syn _ hs; omega
  · simpa using row'
  · rcases hsv with e | ⟨j', e, hj⟩
    · exact M.rlo j (by rw [← e]; exact h)
    · rw [e] at h; cases h; exact hK _ hj
  · have hi' : (S.chs ++ [ch])[i]? = some ch' := hi
    by_cases e : i < S.chs.length
    · rw [List.getElem?_append_left e] at hi'
      obtain ⟨c', h1, h2, h3⟩ := M.chs i ch' hi'
      refine ⟨c', by rw [List.getElem?_append_left (by omega)]; exact h1, h2.same2 (fun j cur t ht hh => F.block j (Array.getElem?_eq_some_iff.1 hh).1 ?_), h3⟩
      rintro (e | e | e)
      · exact dk_cells M.dk (by rcases ht with rfl | rfl <;> decide) hh e
      · exact dir_cells M.now hh e
      · exact row_cells M.row (by rcases ht with rfl | rfl <;> decide) hh e
    · rw [List.getElem?_append_right (by omega)] at hi'
      have e2 : i - S.chs.length = 0 := by
        rcases Nat.eq_zero_or_pos (i - S.chs.length) with h | h
        · exact h
        · rw [List.getElem?_eq_none (by simp; omega)] at hi'; cases hi'
      rw [e2] at hi'
      cases hi'
      refine ⟨c, ?_, hc, hbc⟩
      rw [List.getElem?_append_right (by omega), hcl, e2]
      rfl

theorem Mem.mono {K' : Nat → Prop} (M : Mem w K d S nb sb sv cs vf) (h : ∀ j, j < w.heap.size → K j → K' j) : Mem w K' d S nb sb sv cs vf :=
  ⟨M.dk, M.now, M.syn, fun j e => h j (dir_lt M.now j e) (M.nlo j e), fun j e => h j (dir_lt M.syn j e) (M.slo j e), M.ne, M.row, fun j e => h j (M.row.lt j e).2 (M.rlo j e), (fun i ch hi => by
      obtain ⟨c, a1, a2, a3⟩ := M.chs i ch hi
      exact ⟨c, a1, a2, fun j hj => h j (boxes_lt a2 j hj) (a3 j hj)⟩),
    ⟨fun f x hf => by
      obtain ⟨h1, h2, h3, h4, h5, h6, h7⟩ := M.fils.1 f x hf
      exact ⟨h1, h2, h3, h4, h5, h _ h1.lt h6, fun j e => h j (World.ownsRow.lt h2 j e).2 (h7 j e)⟩, M.fils.2⟩⟩
theorem Rep.mono {K' : Nat → Prop} (R : Rep w K d S) (h : ∀ j, j < w.heap.size → K j → K' j) : Rep w K' d S := by
  obtain ⟨nb, sb, sv, cs, vf, M⟩ := R
  exact ⟨nb, sb, sv, cs, vf, M.mono h⟩

/-- The files, where the directory alone has changed. -/
theorem Mem.files (M : Mem w K d S nb sb sv cs vf) (F : Fr (fun j => j = d ∨ nb = some j ∨ sv.ownBlock = some j) w w') : Fils w' K S.fil vf :=
  M.fils.same fun j cur t ht hh => F.block j (Array.getElem?_eq_some_iff.1 hh).1 (by
    rintro (e | e | e)
    · exact dk_cells M.dk (by rcases ht with rfl | rfl <;> decide) hh e
    · exact dir_cells M.now hh e
    · exact row_cells M.row (by rcases ht with rfl | rfl <;> decide) hh e)
end
end Go.Proofs.Ytolaagbdnchhiaa.Land
