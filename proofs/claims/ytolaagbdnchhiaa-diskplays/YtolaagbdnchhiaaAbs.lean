/-
  The disk, told apart from memory: directories, changes, files.
-/
import Derived.Test.YtolaagbdnchhiaaOps4
set_option linter.unusedVariables false
set_option linter.unusedSimpArgs false
namespace Go.Proofs.Ytolaagbdnchhiaa
open Go.RowKit Go.Maps

theorem at_not_has {D : DataW Value} {k : Lit} (h : Maps.has D k = false) (z : DataW Value) : D.atKey k z = z := atKey_of_not_has h z

/-- Each name of a directory leads to a file. -/
def Fine (D : DataW Value) (fil : Nat → Option (List Int × Nat)) : Prop := ∀ s : ByteArray, Maps.has D (kl s) = true → ∃ f x, (∀ z, D.atKey (kl s) z = pt f) ∧ fil f = some x ∧ isName s = true

theorem kl_inj {s t : ByteArray} (h : kl s = kl t) : s = t := by
  injection h with e
  exact ByteArray.ext (Array.toList_inj.1 e)

theorem Fine.good {D : DataW Value} {fil : Nat → Option (List Int × Nat)} (h : Fine D fil) : Good D := fun s => by
  cases e : Maps.has D (kl s) with
  | true =>
    obtain ⟨f, x, h1, _⟩ := h s e
    exact ⟨_, h1 no⟩
  | false => exact ⟨none, at_not_has e no⟩

/-- What a name leads to. -/
theorem Fine.lead {D : DataW Value} {fil : Nat → Option (List Int × Nat)} (h : Fine D fil) (s : ByteArray) : (Maps.has D (kl s) = false ∧ Leads D s none) ∨ ∃ f x, Maps.has D (kl s) = true ∧ (∀ z, D.atKey (kl s) z = pt f) ∧ Leads D s (some ⟨f, 0, none⟩) ∧ fil f = some x := by
  cases e : Maps.has D (kl s) with
  | true =>
    obtain ⟨f, x, h1, h2, _⟩ := h s e
    exact .inr ⟨f, x, rfl, h1, h1 _, h2⟩
  | false => exact .inl ⟨rfl, at_not_has e _⟩

theorem kl_lit (s : ByteArray) : WideAt.IsKeyLit (kl s) := trivial

theorem Fine.put {D : DataW Value} {fil : Nat → Option (List Int × Nat)} (h : Fine D fil) (hm : IsMap D) (s : ByteArray) (f : Nat) (x : List Int × Nat) (hf : fil f = some x) (hn : isName s = true) : Fine (D.put (kl s) (pt f)) fil := fun t ht => by
  by_cases e : kl t = kl s
  · rw [e]
    exact ⟨f, x, fun z => atKey_put_same hm (kl_lit s) _ _, hf, by rw [kl_inj e]; exact hn⟩
  · rw [has_put_other e] at ht
    obtain ⟨g, y, h1, h2, h3⟩ := h t ht
    exact ⟨g, y, fun z => (atKey_put_other e _ _).trans (h1 z), h2, h3⟩

theorem Fine.more {D : DataW Value} {fil fil' : Nat → Option (List Int × Nat)} (h : Fine D fil) (hk : ∀ f x, fil f = some x → ∃ y, fil' f = some y) : Fine D fil' := fun s hs => by
  obtain ⟨f, x, h1, h2, h3⟩ := h s hs
  obtain ⟨y, hy⟩ := hk f x h2
  exact ⟨f, y, h1, hy, h3⟩

theorem fine_empty (fil : Nat → Option (List Int × Nat)) : Fine (.map []) fil := fun s hs => by cases hs

theorem size_put_le (D : DataW Value) (k : Lit) (v : DataW Value) : Maps.size (D.put k v) ≤ Maps.size D + 1 := by
  cases D <;> try exact Nat.zero_le _
  rename_i es
  show (DataW.insert (k, v) (es.filter fun p => !p.1.sameKey k)).length ≤ es.length + 1
  rw [length_insert]
  have := List.length_filter_le (fun p : Lit × DataW Value => !p.1.sameKey k) es
  omega
theorem size_del_le (D : DataW Value) (k : Lit) : Maps.size (D.del k) ≤ Maps.size D := by
  cases D <;> try exact Nat.zero_le _
  rename_i es
  exact List.length_filter_le _ es
theorem size_del_lt {D : DataW Value} {k : Lit} (h : Maps.has D k = true) : Maps.size (D.del k) + 1 ≤ Maps.size D := by
  cases D <;> try cases h
  rename_i es
  obtain ⟨p, hp, hk⟩ := List.any_eq_true.1 h
  show (es.filter fun p => !p.1.sameKey k).length + 1 ≤ es.length
  have : (es.filter fun p => !p.1.sameKey k).length < es.length := by
    apply List.length_filter_lt_length_iff_exists.2
    exact ⟨p, hp, by simp [hk]⟩
  omega
theorem size_put_same {D : DataW Value} {k : Lit} (v : DataW Value) (h : Maps.has D k = true) : Maps.size (D.put k v) ≤ Maps.size D := by
  cases D <;> try cases h
  rename_i es
  have h2 := size_del_lt (D := .map es) (k := k) h
  show (DataW.insert (k, v) (es.filter fun p => !p.1.sameKey k)).length ≤ es.length
  rw [length_insert]
  exact h2

theorem Fine.del {D : DataW Value} {fil : Nat → Option (List Int × Nat)} (h : Fine D fil) (s : ByteArray) : Fine (D.del (kl s)) fil := fun t ht => by
  by_cases e : kl t = kl s
  · rw [e, has_del_same] at ht
    cases ht
  · rw [has_del_other e] at ht
    obtain ⟨g, y, h1, h2, h3⟩ := h t ht
    exact ⟨g, y, fun z => (atKey_del_other e _).trans (h1 z), h2, h3⟩

/-- The disk, told apart from memory. -/
structure AD where
  now : DataW Value
  syn : DataW Value
  chs : List Ch
  fil : Nat → Option (List Int × Nat)
  ops : Int
  cutAt : Int
  cuts : Bool
  gone : Bool

/-- What holds of every such disk. -/
structure AD.ok (S : AD) : Prop where
  lo : 0 ≤ S.ops
  hi : S.ops ≤ 65536
  few : (S.chs.length : Int) ≤ S.ops
  isn : S.now = .nil ∨ IsMap S.now
  iss : S.syn = .nil ∨ IsMap S.syn
  szn : Maps.size S.now ≤ 64
  szs : Maps.size S.syn ≤ 64
  road : runs S.chs (dn S.syn) = dn S.now
  fine : ∀ k, k ≤ S.chs.length → Fine (runs (S.chs.take k) (dn S.syn)) S.fil

theorem dn_map {D : DataW Value} (h : D = .nil ∨ IsMap D) : IsMap (dn D) := by
  rcases h with rfl | ⟨es, rfl⟩
  · exact ⟨[], rfl⟩
  · exact ⟨es, rfl⟩
theorem dn_at {D : DataW Value} (h : D = .nil ∨ IsMap D) (k : Lit) (z : DataW Value) : (dn D).atKey k z = D.atKey k z := by
  rcases h with rfl | ⟨es, rfl⟩ <;> rfl
theorem dn_has {D : DataW Value} (h : D = .nil ∨ IsMap D) (k : Lit) : Maps.has (dn D) k = Maps.has D k := by
  rcases h with rfl | ⟨es, rfl⟩ <;> rfl
theorem dn_sz {D : DataW Value} (h : D = .nil ∨ IsMap D) : Maps.size (dn D) = Maps.size D := by
  rcases h with rfl | ⟨es, rfl⟩ <;> rfl
theorem dn_id {D : DataW Value} (h : IsMap D) : dn D = D := by
  obtain ⟨es, rfl⟩ := h
  rfl

theorem AD.ok.now_fine {S : AD} (h : S.ok) : Fine (dn S.now) S.fil := by
  have := h.fine S.chs.length (Nat.le_refl _)
  rwa [List.take_length, h.road] at this

theorem runs_snoc (l : List Ch) (c : Ch) (D : DataW Value) : runs (l ++ [c]) D = c.run (runs l D) := by simp [runs]

/-- One more change, and one more operation; the files may have become more, or other ones. -/
theorem AD.ok.step {S : AD} (h : S.ok) (c : Ch) (fil' : Nat → Option (List Int × Nat)) (hop : S.ops < 65536) (hk : ∀ f x, S.fil f = some x → ∃ y, fil' f = some y) (hm : IsMap (c.run (dn S.now))) (hs : Maps.size (c.run (dn S.now)) ≤ 64) (hf : Fine (c.run (dn S.now)) fil') :
    AD.ok { S with now := c.run (dn S.now), chs := S.chs ++ [c], fil := fil', ops := S.ops + 1 } := by
  have h1 := h.lo
  have h2 := h.few
  refine ⟨by show 0 ≤ S.ops + 1; omega, by show S.ops + 1 ≤ 65536; omega, by show ((S.chs ++ [c]).length : Int) ≤ S.ops + 1; simp; omega, .inr hm, h.iss, hs, h.szs, ?_, fun k hk' => ?_⟩
  · show runs (S.chs ++ [c]) (dn S.syn) = dn (c.run (dn S.now))
    rw [runs_snoc, h.road, dn_id hm]
  · show Fine (runs ((S.chs ++ [c]).take k) (dn S.syn)) fil'
    have hk2 : k ≤ S.chs.length + 1 := by simpa using hk'
    by_cases e : k ≤ S.chs.length
    · rw [List.take_append_of_le_length e]
      exact (h.fine k e).more hk
    · rw [List.take_of_length_le (by simp; omega), runs_snoc, h.road]
      exact hf

/-- The directory is synced. -/
theorem AD.ok.sync {S : AD} (h : S.ok) (hop : S.ops < 65536) : AD.ok { S with syn := dn S.now, chs := [], ops := S.ops + 1 } := by
  have h1 := h.lo
  have hm := dn_map h.isn
  refine ⟨by show 0 ≤ S.ops + 1; omega, by show S.ops + 1 ≤ 65536; omega, by show ((0 : Nat) : Int) ≤ S.ops + 1; omega, h.isn, .inr hm, h.szn, by show Maps.size (dn S.now) ≤ 64; rw [dn_sz h.isn]; exact h.szn, ?_, fun k hk => ?_⟩
  · show dn (dn S.now) = dn S.now
    exact dn_id hm
  · show Fine (runs (([] : List Ch).take k) (dn (dn S.now))) S.fil
    rw [List.take_nil, dn_id hm]
    exact h.now_fine

/-- Other files, or more, and maybe one more operation. -/
theorem AD.ok.files {S : AD} (h : S.ok) (fil' : Nat → Option (List Int × Nat)) (n : Int) (hn : S.ops ≤ n) (hn2 : n ≤ 65536) (hk : ∀ f x, S.fil f = some x → ∃ y, fil' f = some y) : AD.ok { S with fil := fil', ops := n } :=
  ⟨by have := h.lo; show 0 ≤ n; omega, hn2, by have := h.few; show (S.chs.length : Int) ≤ n; omega, h.isn, h.iss, h.szn, h.szs, h.road, fun k hk' => (h.fine k hk').more hk⟩
end Go.Proofs.Ytolaagbdnchhiaa
