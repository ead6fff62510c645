/-
  Xm7: CScan, plain: what a closure tells of all keys, put in order, is what is there.
-/
import Derived.Test.YtheidhkmmihjlaaXm6
set_option linter.unusedVariables false
set_option linter.unusedSimpArgs false
namespace Go.Proofs.Ytheidhkmmihjlaa
open Go.RowKit
open ML (Ro Srt nless fstOf od nl_irr nl_tr nl_tot)

theorem seeL_mem {S : Ms} {lo hi key : ByteArray} {x : Ro} : x ∈ seeL S lo hi key ↔ ins lo hi x = true ∧ x.k = key ∧ x.t = 0 ∧ look S key = some x.v := by
  unfold seeL
  have hi' : ∀ y : Ro, y.k = key → ins lo hi y = ins lo hi ⟨key, .empty, 0⟩ := fun y e => by unfold ins; rw [e]
  split
  · next q =>
    split
    · next v hv =>
      rw [List.mem_singleton]
      constructor
      · rintro rfl
        exact ⟨by rw [hi' _ rfl]; exact q, rfl, rfl, hv⟩
      · rintro ⟨_, h1, h2, h3⟩
        cases x
        simp_all
    · next hv =>
      constructor
      · intro q; cases q
      · rintro ⟨_, _, _, h3⟩; rw [hv] at h3; cases h3
  · next q =>
    constructor
    · intro q; cases q
    · rintro ⟨h0, h1, _⟩
      rw [hi' x h1] at h0
      exact absurd h0 q
theorem seeL_keys (S : Ms) (lo hi key : ByteArray) : ((seeL S lo hi key).map Ro.k).Sublist [key] := by
  unfold seeL
  split
  · split
    · exact List.Sublist.refl _
    · exact List.nil_sublist _
  · exact List.nil_sublist _
theorem seeL_len (S : Ms) (lo hi key : ByteArray) : (seeL S lo hi key).length ≤ 1 := by
  have := (seeL_keys S lo hi key).length_le
  simpa using this
/-- What the second run tells of a row. -/
def seeR (S : Ms) (lo hi : ByteArray) (r : Ro) : List Ro := if (wOf (S.ws.getD []) r.k).isSome then [] else seeL S lo hi r.k
theorem seeR_len (S : Ms) (lo hi : ByteArray) (r : Ro) : (seeR S lo hi r).length ≤ 1 := by
  unfold seeR
  split
  · simp
  · exact seeL_len _ _ _ _
def told (S : Ms) (lo hi : ByteArray) (ws : List Wr) (L : List Ro) : List Ro := ws.flatMap (fun p => seeL S lo hi p.key) ++ L.flatMap (seeR S lo hi)
theorem flat_one {α β : Type} (f : α → List β) (hf : ∀ a, (f a).length ≤ 1) : ∀ l : List α, (l.flatMap f).length ≤ l.length
  | [] => Nat.le_refl _
  | a :: l => by
    have := flat_one f hf l
    have := hf a
    rw [List.flatMap_cons, List.length_append]
    simp only [List.length_cons]
    omega
theorem told_len (S : Ms) (lo hi : ByteArray) (ws : List Wr) (L : List Ro) : (told S lo hi ws L).length ≤ ws.length + L.length := by
  unfold told
  rw [List.length_append]
  have h1 := flat_one (fun p : Wr => seeL S lo hi p.key) (fun p => seeL_len _ _ _ _) ws
  have h2 := flat_one (seeR S lo hi) (seeR_len S lo hi) L
  omega
theorem flat_keys {α : Type} (f : α → List Ro) (key : α → ByteArray) (hf : ∀ a, ((f a).map Ro.k).Sublist [key a]) : ∀ l : List α, ((l.flatMap f).map Ro.k).Sublist (l.map key)
  | [] => List.Sublist.refl _
  | a :: l => by
    rw [List.flatMap_cons, List.map_append, List.map_cons]
    exact List.Sublist.append (l₁ := (f a).map Ro.k) (l₂ := [key a]) (hf a) (flat_keys f key hf l)
theorem told_mem {S : Ms} (h : S.ok) {lo hi : ByteArray} {ws : List Wr} {L : List Ro} (hw : ws.Perm (S.ws.getD [])) (hL : L.Perm S.L) {x : Ro} : x ∈ told S lo hi ws L ↔ x ∈ scn S lo hi := by
  rw [scn_mem h]
  unfold told
  rw [List.mem_append, List.mem_flatMap, List.mem_flatMap]
  constructor
  · rintro (⟨p, hp, q⟩ | ⟨r, hr, q⟩)
    · obtain ⟨h1, h2, h3, h4⟩ := seeL_mem.1 q
      exact ⟨⟨h3, by rw [h2]; exact h4⟩, h1⟩
    · unfold seeR at q
      split at q
      · cases q
      · obtain ⟨h1, h2, h3, h4⟩ := seeL_mem.1 q
        exact ⟨⟨h3, by rw [h2]; exact h4⟩, h1⟩
  · rintro ⟨⟨h3, h4⟩, h1⟩
    cases hq : wOf (S.ws.getD []) x.k with
    | some p =>
      obtain ⟨hp, hk⟩ := (wOf_some h.kd).1 hq
      exact .inl ⟨p, hw.mem_iff.2 hp, seeL_mem.2 ⟨h1, hk.symm, h3, by rw [hk]; exact h4⟩⟩
    | none =>
      have h5 := h4
      unfold look at h5
      rw [hq] at h5
      obtain ⟨r, hr, hv⟩ := Option.map_eq_some_iff.1 h5
      obtain ⟨hr1, hr2⟩ := (fst_iff h.srt).1 hr
      refine .inr ⟨r, hL.mem_iff.2 hr1, ?_⟩
      unfold seeR
      rw [hr2, hq]
      exact seeL_mem.2 ⟨h1, rfl, h3, h4⟩
theorem told_nd {S : Ms} (h : S.ok) {lo hi : ByteArray} {ws : List Wr} {L : List Ro} (hw : ws.Perm (S.ws.getD [])) (hL : L.Perm S.L) : ((told S lo hi ws L).map Ro.k).Nodup := by
  unfold told
  rw [List.map_append, List.nodup_append]
  refine ⟨(flat_keys _ Wr.key (fun p => seeL_keys S lo hi p.key) ws).nodup (((hw.map _).nodup_iff).2 (srtW_nd h.kd)), (flat_keys (seeR S lo hi) Ro.k (fun r => ?_) L).nodup (((hL.map _).nodup_iff).2 (srt_nd h.srt)), fun a ha c hc e => ?_⟩
  · unfold seeR
    split
    · exact List.nil_sublist _
    · exact seeL_keys S lo hi r.k
  · subst e
    obtain ⟨x, hx, rfl⟩ := List.mem_map.1 ha
    obtain ⟨y, hy, e2⟩ := List.mem_map.1 hc
    obtain ⟨p, hp, q⟩ := List.mem_flatMap.1 hx
    obtain ⟨r, hr, q2⟩ := List.mem_flatMap.1 hy
    have h1 := (seeL_mem.1 q).2.1
    unfold seeR at q2
    split at q2
    · cases q2
    · next hn =>
      have h2 := (seeL_mem.1 q2).2.1
      have h3 : wOf (S.ws.getD []) r.k = some p := (wOf_some h.kd).2 ⟨hw.mem_iff.1 hp, by rw [← h1, ← e2, h2]⟩
      rw [h3] at hn
      exact hn rfl
theorem sorted_is {ys zs : List Ro} (hp : ys.Pairwise fun a b => nless b.k a.k = false) (hn : (ys.map Ro.k).Nodup) (hz : Srt zs) (hm : ∀ x, x ∈ ys ↔ x ∈ zs) : ys = zs := by
  refine Ck.Ris.eq od ?_ hz hm
  have h1 : ys.Pairwise fun a b => a.k ≠ b.k := List.pairwise_map.1 hn
  exact (hp.and h1).imp fun {a b} q => by
    rcases nl_tot a.k b.k with t | t | t
    · exact t
    · exact absurd t q.2
    · rw [q.1] at t; cases t
end Go.Proofs.Ytheidhkmmihjlaa
