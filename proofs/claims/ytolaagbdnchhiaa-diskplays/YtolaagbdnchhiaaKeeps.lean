/-
  A name that nobody touches leads to its file, in every directory that a crash may leave.
-/
import Derived.Test.YtolaagbdnchhiaaRepApp
set_option linter.unusedVariables false
set_option linter.unusedSimpArgs false
namespace Go.Proofs.Ytolaagbdnchhiaa
open Go.RowKit Go.Maps

/-- This name leads to this file. -/
def To (D : DataW Value) (s : ByteArray) (f : Nat) : Prop := ∀ z, D.atKey (kl s) z = pt f
/-- No two names lead to one file. -/
def Inj (D : DataW Value) : Prop := ∀ s t f, To D s f → To D t f → kl s = kl t

theorem pt_of {f g : Nat} (h : pt f = pt g) : f = g := by simpa [pt] using h
theorem To.one {D : DataW Value} {s : ByteArray} {f g : Nat} (h : To D s f) (k : To D s g) : f = g := pt_of ((h no).symm.trans (k no))
theorem To.has {D : DataW Value} {s : ByteArray} {f : Nat} (h : To D s f) : Maps.has D (kl s) = true := has_true_of_atKey h

theorem to_put {D : DataW Value} (hm : IsMap D) {s t : ByteArray} {f g : Nat} : To (D.put (kl s) (pt f)) t g ↔ (kl t = kl s ∧ g = f) ∨ (kl t ≠ kl s ∧ To D t g) := by
  by_cases e : kl t = kl s
  · constructor
    · intro h
      refine .inl ⟨e, ?_⟩
      have := h no
      rw [e, atKey_put_same hm (kl_lit s)] at this
      exact (pt_of this).symm
    · rintro (⟨_, rfl⟩ | ⟨h, _⟩)
      · intro z
        rw [e]
        exact atKey_put_same hm (kl_lit s) _ _
      · exact absurd e h
  · constructor
    · exact fun h => .inr ⟨e, fun z => (atKey_put_other e _ _).symm.trans (h z)⟩
    · rintro (⟨h, _⟩ | ⟨_, h⟩)
      · exact absurd h e
      · exact fun z => (atKey_put_other e _ _).trans (h z)
theorem to_del {D : DataW Value} {s t : ByteArray} {g : Nat} : To (D.del (kl s)) t g ↔ kl t ≠ kl s ∧ To D t g := by
  by_cases e : kl t = kl s
  · constructor
    · intro h
      have := h.has
      rw [e, has_del_same] at this
      cases this
    · exact fun h => absurd e h.1
  · exact ⟨fun h => ⟨e, fun z => (atKey_del_other e _).symm.trans (h z)⟩, fun h z => (atKey_del_other e _).trans (h.2 z)⟩

theorem inj_empty : Inj (.map []) := fun s t f h => by
  have := h.has
  cases this
theorem Inj.mk {D : DataW Value} (h : Inj D) (hm : IsMap D) {s : ByteArray} {f : Nat} (hf : ∀ t, ¬ To D t f) : Inj (D.put (kl s) (pt f)) := fun t u g ht hu => by
  rcases (to_put hm).1 ht with ⟨e1, rfl⟩ | ⟨e1, h1⟩
  · rcases (to_put hm).1 hu with ⟨e2, _⟩ | ⟨_, h2⟩
    · rw [e1, e2]
    · exact absurd h2 (hf u)
  · rcases (to_put hm).1 hu with ⟨_, rfl⟩ | ⟨_, h2⟩
    · exact absurd h1 (hf t)
    · exact h t u g h1 h2
theorem Inj.del {D : DataW Value} (h : Inj D) (s : ByteArray) : Inj (D.del (kl s)) := fun t u g ht hu => h t u g (to_del.1 ht).2 (to_del.1 hu).2
theorem Inj.ren {D : DataW Value} (h : Inj D) (hm : IsMap D) {s t : ByteArray} {f : Nat} (hs : To D s f) : Inj ((D.del (kl s)).put (kl t) (pt f)) :=
  (h.del s).mk (hm.del _) fun u hu => by
    obtain ⟨h1, h2⟩ := to_del.1 hu
    exact h1 (h u s f h2 hs)

/-- No two names lead to one file, on all of the road. -/
def AD.apart (S : AD) : Prop := ∀ k, k ≤ S.chs.length → Inj (runs (S.chs.take k) (dn S.syn))
/-- The name s leads to the file f, on all of the road, and the file is x. -/
def AD.keeps (S : AD) (s : ByteArray) (f : Nat) (x : List Int × Nat) : Prop := (∀ k, k ≤ S.chs.length → To (runs (S.chs.take k) (dn S.syn)) s f) ∧ S.fil f = some x

theorem road_now {S : AD} (ok : S.ok) {Pr : DataW Value → Prop} (h : ∀ k, k ≤ S.chs.length → Pr (runs (S.chs.take k) (dn S.syn))) : Pr (dn S.now) := by
  have := h S.chs.length (Nat.le_refl _)
  rwa [List.take_length, ok.road] at this
theorem road_more {S : AD} (ok : S.ok) {Pr : DataW Value → Prop} (h : ∀ k, k ≤ S.chs.length → Pr (runs (S.chs.take k) (dn S.syn))) (c : Ch) (hc : Pr (c.run (dn S.now))) :
    ∀ k, k ≤ (S.chs ++ [c]).length → Pr (runs ((S.chs ++ [c]).take k) (dn S.syn)) := fun k hk => by
  have hk2 : k ≤ S.chs.length + 1 := by simpa using hk
  by_cases e : k ≤ S.chs.length
  · rw [List.take_append_of_le_length e]
    exact h k e
  · rw [List.take_of_length_le (by simp; omega), runs_snoc, ok.road]
    exact hc

section
variable {S : AD}
theorem apart_del (ok : S.ok) (h : S.apart) (s : ByteArray) : (S.did (.del s)).apart := road_more ok h (.del s) ((road_now ok h).del s)
theorem apart_ren (ok : S.ok) (h : S.apart) (s t : ByteArray) {f : Nat} (hs : To (dn S.now) s f) : (S.did (.ren s t)).apart := road_more ok h (.ren s t) (by
  show Inj (((dn S.now).del (kl s)).put (kl t) ((dn S.now).atKey (kl s) no))
  rw [hs no]
  exact (road_now ok h).ren (dn_map ok.isn) hs)
theorem apart_made (ok : S.ok) (h : S.apart) (s : ByteArray) {f : Nat} (xs : List Int) (hf : S.fil f = none) : (S.made s f xs).apart := road_more ok h (.mk s f) (by
  refine (road_now ok h).mk (dn_map ok.isn) fun t ht => ?_
  obtain ⟨g, y, h1, h2, _⟩ := ok.now_fine t ht.has
  obtain rfl : f = g := ht.one h1
  rw [hf] at h2
  cases h2)
theorem apart_files {fil' : Nat → Option (List Int × Nat)} {n : Int} (h : S.apart) : AD.apart { S with fil := fil', ops := n } := h
theorem apart_sync (ok : S.ok) (h : S.apart) : S.dirSynced.apart := fun k hk => by
  show Inj (runs (([] : List Ch).take k) (dn (dn S.now)))
  rw [List.take_nil, dn_id (dn_map ok.isn)]
  exact road_now ok h

variable {s0 : ByteArray} {f0 : Nat} {x0 : List Int × Nat}
theorem keeps_del (ok : S.ok) (h : S.keeps s0 f0 x0) {s : ByteArray} (hne : s ≠ s0) : (S.did (.del s)).keeps s0 f0 x0 :=
  ⟨road_more ok (Pr := fun D => To D s0 f0) h.1 (.del s) (to_del.2 ⟨fun e => hne (kl_inj e).symm, road_now ok (Pr := fun D => To D s0 f0) h.1⟩), h.2⟩
theorem keeps_ren (ok : S.ok) (h : S.keeps s0 f0 x0) {s t : ByteArray} (hs : s ≠ s0) (ht : t ≠ s0) {f : Nat} (hf : To (dn S.now) s f) : (S.did (.ren s t)).keeps s0 f0 x0 :=
  ⟨road_more ok (Pr := fun D => To D s0 f0) h.1 (.ren s t) (by
    show To (((dn S.now).del (kl s)).put (kl t) ((dn S.now).atKey (kl s) no)) s0 f0
    rw [hf no]
    exact (to_put ((dn_map ok.isn).del _)).2 (.inr ⟨fun e => ht (kl_inj e).symm, to_del.2 ⟨fun e => hs (kl_inj e).symm, road_now ok (Pr := fun D => To D s0 f0) h.1⟩⟩)), h.2⟩
theorem keeps_made (ok : S.ok) (h : S.keeps s0 f0 x0) {s : ByteArray} (hs : s ≠ s0) {f : Nat} (xs : List Int) (hf : S.fil f = none) : (S.made s f xs).keeps s0 f0 x0 :=
  ⟨road_more ok (Pr := fun D => To D s0 f0) h.1 (.mk s f) ((to_put (dn_map ok.isn)).2 (.inr ⟨fun e => hs (kl_inj e).symm, road_now ok (Pr := fun D => To D s0 f0) h.1⟩)), by
    show upd S.fil f (xs, 0) f0 = some x0
    rw [upd_other _ _ (fun e => by rw [← e, h.2] at hf; cases hf)]
    exact h.2⟩
theorem other_file (ok : S.ok) (ha : S.apart) (h : S.keeps s0 f0 x0) {s : ByteArray} (hs : s ≠ s0) {f : Nat} (hf : To (dn S.now) s f) : f0 ≠ f := fun e => by
  have h0 : To (dn S.now) s0 f0 := road_now ok (Pr := fun D => To D s0 f0) h.1
  rw [e] at h0
  exact hs (kl_inj (road_now ok ha s s0 f hf h0))
theorem keeps_grown (ok : S.ok) (ha : S.apart) (h : S.keeps s0 f0 x0) {s : ByteArray} (hs : s ≠ s0) {f : Nat} (y : List Int × Nat) (xs : List Int) (hf : To (dn S.now) s f) : (S.grown f y xs).keeps s0 f0 x0 :=
  ⟨h.1, by
    show upd S.fil f (y.1 ++ xs, y.2) f0 = some x0
    rw [upd_other _ _ (other_file ok ha h hs hf)]
    exact h.2⟩
theorem keeps_synced (ok : S.ok) (ha : S.apart) (h : S.keeps s0 f0 x0) {s : ByteArray} (hs : s ≠ s0) {f : Nat} (y : List Int × Nat) (hf : To (dn S.now) s f) : (S.synced f y).keeps s0 f0 x0 :=
  ⟨h.1, by
    show (if f0 = f then some (y.1, y.1.length) else S.fil f0) = some x0
    rw [if_neg (other_file ok ha h hs hf)]
    exact h.2⟩
theorem keeps_sync (ok : S.ok) (h : S.keeps s0 f0 x0) : S.dirSynced.keeps s0 f0 x0 :=
  ⟨fun k hk => by
    show To (runs (([] : List Ch).take k) (dn (dn S.now))) s0 f0
    rw [List.take_nil, dn_id (dn_map ok.isn)]
    exact road_now ok (Pr := fun D => To D s0 f0) h.1, h.2⟩
end
end Go.Proofs.Ytolaagbdnchhiaa
