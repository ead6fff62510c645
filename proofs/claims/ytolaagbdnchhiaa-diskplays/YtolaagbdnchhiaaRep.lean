/-
  The disk in memory and the disk told apart from it, held together.
-/
import Derived.Test.YtolaagbdnchhiaaAbs
set_option linter.unusedVariables false
set_option linter.unusedSimpArgs false
namespace Go.Proofs.Ytolaagbdnchhiaa
open Go.RowKit Go.Maps

/-- Files in memory. -/
def Fils (w : World) (B : Nat) (fil : Nat → Option (List Int × Nat)) (vf : Nat → Value) : Prop :=
  (∀ f x, fil f = some x → Fl w f (vf f) x.2 ∧ Own w B (vf f) x.1 ∧ Byt x.1 ∧ x.2 ≤ x.1.length ∧ x.1.length ≤ 262144 ∧ B ≤ f) ∧
  ∀ f g x y j, fil f = some x → fil g = some y → (vf f).ownBlock = some j → (vf g).ownBlock = some j → f = g

theorem Fils.same {w w' : World} {B : Nat} {fil : Nat → Option (List Int × Nat)} {vf : Nat → Value} (h : Fils w B fil vf)
    (e : ∀ (j : Nat) (cur : Array Value) (t : TypeId), t = 81 ∨ t = 5 → w.heap[j]? = some (Obj.cells cur t (0, 0)) → w'.heap[j]? = w.heap[j]?) : Fils w' B fil vf := by
  refine ⟨fun f x hf => ?_, h.2⟩
  obtain ⟨h1, h2, h3⟩ := h.1 f x hf
  refine ⟨(e _ _ _ (.inl rfl) h1).trans h1, row_same h2 fun j hj => ?_, h3⟩
  obtain ⟨cur, hh, _⟩ := row_block h2 hj
  exact e _ _ _ (.inr rfl) hh

theorem ChAt.same2 {w w' : World} {c : Value} {ch : Ch} (h : ChAt w c ch) (e : ∀ (j : Nat) (cur : Array Value) (t : TypeId), t = 9 ∨ t = 77 → w.heap[j]? = some (Obj.cells cur t (0, 0)) → w'.heap[j]? = w.heap[j]?) : ChAt w' c ch := by
  cases ch with
  | mk s f =>
    obtain ⟨fb, nb, rfl, h1, h2, h3⟩ := h
    exact ⟨fb, nb, rfl, (e _ _ _ (.inl rfl) h1).trans h1, (e _ _ _ (.inr rfl) h2).trans h2, h3⟩
  | del s =>
    obtain ⟨nb, rfl, h1, h3⟩ := h
    exact ⟨nb, rfl, (e _ _ _ (.inl rfl) h1).trans h1, h3⟩
  | ren s t =>
    obtain ⟨nb, mb, rfl, h1, h2, h3, h4⟩ := h
    exact ⟨nb, mb, rfl, (e _ _ _ (.inl rfl) h1).trans h1, (e _ _ _ (.inl rfl) h2).trans h2, h3, h4⟩

structure Mem (w : World) (B d : Nat) (S : AD) (nb sb : Option Nat) (sv : Value) (cs : List Value) (vf : Nat → Value) : Prop where
  dk : Dk w d (.map nb) (.map sb) sv S.ops S.cutAt S.cuts S.gone
  now : Dir w nb S.now
  syn : Dir w sb S.syn
  nlo : ∀ j, nb = some j → B ≤ j
  slo : ∀ j, sb = some j → B ≤ j
  ne : ∀ j, nb = some j → sb ≠ some j
  row : w.ownsRow B 83 1 sv S.chs.length cs
  chs : ∀ (i : Nat) (ch : Ch), S.chs[i]? = some ch → ∃ c, cs[i]? = some c ∧ ChAt w c ch
  fils : Fils w B S.fil vf

def Rep (w : World) (B d : Nat) (S : AD) : Prop := ∃ nb sb sv cs vf, Mem w B d S nb sb sv cs vf

section
variable {w w' : World} {B d : Nat} {S : AD} {nb sb : Option Nat} {sv : Value} {cs : List Value} {vf : Nat → Value}

theorem dir_lt {mb : Option Nat} {D : DataW Value} (h : Dir w mb D) : ∀ j, mb = some j → j < w.heap.size := fun j e => by
  rcases h with ⟨rfl, _⟩ | ⟨b, n, rfl, ho⟩
  · cases e
  · cases e; exact ho.lt
theorem dir_cells {mb : Option Nat} {D : DataW Value} (h : Dir w mb D) {j : Nat} {cur : Array Value} {t : TypeId} {fr : Nat × Nat} (hc : w.heap[j]? = some (Obj.cells cur t fr)) : mb ≠ some j := fun e => by
  rcases h with ⟨rfl, _⟩ | ⟨b, n, rfl, ho⟩
  · cases e
  · cases e; exact own_not_cells ho hc rfl
theorem dir_is {mb : Option Nat} {D : DataW Value} (h : Dir w mb D) : D = .nil ∨ IsMap D := by
  rcases h with ⟨_, rfl⟩ | ⟨b, n, rfl, ho⟩
  · exact .inl rfl
  · exact .inr ho.isMap

/-- All that was there is as it was. -/
theorem Mem.same (M : Mem w B d S nb sb sv cs vf) (e : ∀ j, j < w.heap.size → w'.heap[j]? = w.heap[j]?) : Mem w' B d S nb sb sv cs vf := by
  have ec : ∀ (j : Nat) (cur : Array Value) (t : TypeId), w.heap[j]? = some (Obj.cells cur t (0, 0)) → w'.heap[j]? = w.heap[j]? := fun j cur t h => e j (Array.getElem?_eq_some_iff.1 h).1
  refine ⟨M.dk.same (e _ M.dk.lt), Dir.same M.now fun j h => e j (dir_lt M.now j h), Dir.same M.syn fun j h => e j (dir_lt M.syn j h), M.nlo, M.slo, M.ne, row_same M.row fun j h => ?_, fun i ch hi => ?_, M.fils.same fun j cur t _ => ec j cur t⟩
  · obtain ⟨cur, hh, _⟩ := row_block M.row h
    exact ec _ _ _ hh
  · obtain ⟨c, h1, h2⟩ := M.chs i ch hi
    exact ⟨c, h1, h2.same2 fun j cur t _ => ec j cur t⟩
theorem Rep.below (h : Rep w B d S) (hb : Below w.heap.size w w') : Rep w' B d S := by
  obtain ⟨nb, sb, sv, cs, vf, M⟩ := h
  exact ⟨nb, sb, sv, cs, vf, M.same fun j hj => hb.block j hj⟩

/-- A row of changes lies in no box, file or row of bytes. -/
theorem row_cells {v : Value} {k : Nat} (h : w.ownsRow B 83 1 v k cs) {j : Nat} {cur : Array Value} {t : TypeId} (ht : t ≠ 83) (hc : w.heap[j]? = some (Obj.cells cur t (0, 0))) : v.ownBlock ≠ some j := fun e => by
  obtain ⟨cur', hh, _⟩ := row_block h e
  rw [hc] at hh
  simp at hh
  exact ht hh.2
theorem dk_cells {now syn since : Value} {ops cutAt : Int} {cuts gone : Bool} (h : Dk w d now syn since ops cutAt cuts gone) {j : Nat} {cur : Array Value} {t : TypeId} (ht : t ≠ 61) (hc : w.heap[j]? = some (Obj.cells cur t (0, 0))) : j ≠ d := fun e => by
  unfold Dk at h
  rw [e, h] at hc
  simp at hc
  exact ht hc.2.symm

/-- A change of the directory. -/
theorem Mem.change (M : Mem w B d S nb sb sv cs vf) (hB : B ≤ w.heap.size) {b n' : Nat} {sv' c : Value} {ch : Ch} {D' : DataW Value} {fil' : Nat → Option (List Int × Nat)} {vf' : Nat → Value} (hbn : nb = some b ∨ nb = none ∧ w.heap.size ≤ b)
    (dk' : Dk w' d (.map (some b)) (.map sb) sv' (S.ops + 1) S.cutAt S.cuts S.gone) (own' : w'.ownsMap Try.prog 9 RV b n' D') (row' : w'.ownsRow B 83 1 sv' (S.chs.length + 1) (cs ++ [c])) (hc : ChAt w' c ch)
    (F : Fr (fun j => j = d ∨ nb = some j ∨ sv.ownBlock = some j) w w') (hf : Fils w' B fil' vf') :
    Mem w' B d { S with now := D', chs := S.chs ++ [ch], fil := fil', ops := S.ops + 1 } (some b) sb sv' (cs ++ [c]) vf' := by
  have hcl : cs.length = S.chs.length := by have := M.row.1; omega
  refine ⟨dk', .inr ⟨b, n', rfl, own'⟩, Dir.same M.syn fun j h => F.block j (dir_lt M.syn j h) ?_, fun j h => ?_, M.slo, fun j h hs => ?_, ?_, fun i ch' hi => ?_, hf⟩
  · rintro (e | e | e)
    · subst e; exact dir_cells M.syn M.dk h
    · exact M.ne j e h
    · obtain ⟨cur, hh, _⟩ := row_block M.row e
      exact dir_cells M.syn hh h
  · cases h
    rcases hbn with e | ⟨_, e⟩
    · exact M.nlo _ e
    · omega
  · cases h
    rcases hbn with e | ⟨_, e⟩
    · exact M.ne _ e hs
    · have := dir_lt M.syn _ hs; omega
  · simpa using row'
  · have hi' : (S.chs ++ [ch])[i]? = some ch' := hi
    by_cases e : i < S.chs.length
    · rw [List.getElem?_append_left e] at hi'
      obtain ⟨c', h1, h2⟩ := M.chs i ch' hi'
      refine ⟨c', by rw [List.getElem?_append_left (by omega)]; exact h1, h2.same2 fun j cur t ht hh => F.block j (Array.getElem?_eq_some_iff.1 hh).1 ?_⟩
      rintro (e | e | e)
      · exact dk_cells M.dk (by rcases ht with rfl | rfl <;> decide) hh e
      · exact dir_cells M.now hh e
      · exact row_cells M.row (by rcases ht with rfl | rfl <;> decide) hh e
    · rw [List.getElem?_append_right (by omega)] at hi'
      have e2 : i - S.chs.length = 0 := by
        rcases Nat.eq_zero_or_pos (i - S.chs.length) with h | h
        · exact h
        · rw [List.getElem?_eq_none (by simp; omega)] at hi'; cases hi'
      rw [e2] at hi'
      cases hi'
      refine ⟨c, ?_, hc⟩
      rw [List.getElem?_append_right (by omega), hcl, e2]
      rfl

/-- The files, where the directory alone has changed. -/
theorem Mem.files (M : Mem w B d S nb sb sv cs vf) (F : Fr (fun j => j = d ∨ nb = some j ∨ sv.ownBlock = some j) w w') : Fils w' B S.fil vf :=
  M.fils.same fun j cur t ht hh => F.block j (Array.getElem?_eq_some_iff.1 hh).1 (by
    rintro (e | e | e)
    · exact dk_cells M.dk (by rcases ht with rfl | rfl <;> decide) hh e
    · exact dir_cells M.now hh e
    · exact row_cells M.row (by rcases ht with rfl | rfl <;> decide) hh e)
end
end Go.Proofs.Ytolaagbdnchhiaa
