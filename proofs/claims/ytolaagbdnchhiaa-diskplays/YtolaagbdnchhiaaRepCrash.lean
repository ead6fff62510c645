/-
  A crash, held against the disk told apart from memory; the names of a disk.
-/
import Derived.Test.YtolaagbdnchhiaaPlay
import Derived.Test.YtolaagbdnchhiaaNamesOf
import Derived.Test.YtolaagbdnchhiaaDiskNames
set_option linter.unusedVariables false
set_option linter.unusedSimpArgs false
namespace Go.Proofs.Ytolaagbdnchhiaa
open Go.RowKit Go.Maps Go.Sort

/-- What a crash leaves of a file. -/
def leftOf (ke te : Int) (x : List Int × Nat) : List Int := turnL (x.1.take (x.2 + shr ke (x.1.length - x.2))) (shr te (shr ke (x.1.length - x.2)))
/-- The directory that a crash leaves. -/
def AD.crashDir (S : AD) (di : Int) : DataW Value := runs (S.chs.take (shr di S.chs.length)) (dn S.syn)

/-- A disk that is read: its names, and what each leads to. -/
structure Seen (w : World) (d : Nat) (E : DataW Value) (C : Nat → Option (List Int)) (ops : Int) : Prop where
  it : ∃ (nb n : Nat) (syn since : Value) (cutAt : Int) (cuts : Bool) (L : DataW Value) (B : Nat), Dk w d (.map (some nb)) syn since ops cutAt cuts false ∧ w.ownsMap Try.prog 9 RV nb n L ∧ n ≤ 1000000 ∧ (∀ k, Maps.has L k = Maps.has E k) ∧
    ∀ (s : ByteArray) (f : Nat) (xs : List Int), (∀ z, E.atKey (kl s) z = pt f) → C f = some xs → ∃ f' v sy, (∀ z, L.atKey (kl s) z = pt f') ∧ Fl w f' v sy ∧ Own w B v xs ∧ Byt xs ∧ xs.length ≤ 1000000

theorem Seen.below {w w' : World} {d : Nat} {E : DataW Value} {C : Nat → Option (List Int)} {ops : Int} (h : Seen w d E C ops) (hb : Below w.heap.size w w') : Seen w' d E C ops := by
  obtain ⟨nb, n, syn, since, cutAt, cuts, L, B, h1, h2, h3, h4, h5⟩ := h.it
  refine ⟨nb, n, syn, since, cutAt, cuts, L, B, h1.same (hb.block _ h1.lt), own_below h2 hb, h3, h4, fun s f xs a1 a2 => ?_⟩
  obtain ⟨f', v, sy, b1, b2, b3, b4⟩ := h5 s f xs a1 a2
  refine ⟨f', v, sy, b1, (hb.block _ b2.lt).trans b2, row_same b3 fun j e => ?_, b4⟩
  obtain ⟨_, _, _, hl⟩ := row_block b3 e
  exact hb.block j hl

theorem leftOf_byt {ke te : Int} {x : List Int × Nat} (h : Byt x.1) : Byt (leftOf ke te x) := turnL_byt (h.take _) _
theorem leftOf_len (ke te : Int) (x : List Int × Nat) : (leftOf ke te x).length ≤ x.1.length := by
  unfold leftOf
  rw [turnL_length, List.length_take]
  omega

theorem rep_crash {w : World} {B d : Nat} {S : AD} (h : Rep w B d S) (ok : S.ok) (ke di te : Int) :
    Calls Try.prog 21 #[.pointer (some ⟨d, 0, none⟩), .agg #[.int .i64 ke, .int .i64 di, .int .i64 te]] w fun e w' => ∃ d', e = .returned (.pointer (some ⟨d', 0, none⟩)) ∧
      Seen w' d' (S.crashDir di) (fun f => (S.fil f).map (leftOf ke te)) 0 ∧ Below w.heap.size w w' := by
  obtain ⟨nb, sb, sv, cs, vf, M⟩ := h
  have h1 := ok.few
  have h2 := ok.hi
  refine (crash_any M.dk M.syn (by have := ok.szs; omega) M.row (by omega) M.chs ke di te _ rfl (S.crashDir di) rfl (fun k hk => ?_) (fun s hs => ?_)).mono ?_
  · have hk2 : k ≤ S.chs.length := Nat.le_trans hk (shr_le _ _)
    exact (ok.fine k hk2).good
  · obtain ⟨f, x, a1, a2, _⟩ := ok.fine _ (shr_le di S.chs.length) s hs
    obtain ⟨g1, g2, g3, g4, g5, g6⟩ := M.fils.1 f x a2
    obtain ⟨ao, l, cap, hv, hsl, _⟩ := g2.sl' g3
    have hl : l = x.1.length := hsl.1.symm
    rw [hv] at g1
    exact ⟨f, ao, l, cap, x.1, x.2, a1, g1, hsl, by omega, by omega⟩
  · rintro e w' ⟨d', nb', sb', L, rfl, _, _, _, _, b1, b2, _, b4, b5, b6⟩
    refine ⟨d', rfl, ⟨nb', _, _, _, 0, false, L, w.heap.size, b1, b2.mono (Nat.le_refl _), ?_, b4, fun s f xs a1 a2 => ?_⟩, b6⟩
    · have : ∀ (l : List Ch) (D : DataW Value), Maps.size (runs l D) ≤ Maps.size D + l.length := fun l => by
        induction l with
        | nil => intro D; exact Nat.le_refl _
        | cons c l ih =>
          intro D
          have e1 : Maps.size (c.run D) ≤ Maps.size D + 1 := by
            cases c with
            | mk s f => exact size_put_le _ _ _
            | del s => have := size_del_le D (kl s); show Maps.size (D.del (kl s)) ≤ _; omega
            | ren s t =>
              have h1 := size_put_le (D.del (kl s)) (kl t) (D.atKey (kl s) no)
              have h2 := size_del_le D (kl s)
              show Maps.size ((D.del (kl s)).put (kl t) (D.atKey (kl s) no)) ≤ _
              omega
          have e2 := ih (c.run D)
          show Maps.size (runs l (c.run D)) ≤ _
          simp only [List.length_cons]
          omega
      have h3 := this (S.chs.take (shr di S.chs.length)) (dn S.syn)
      rw [dn_sz ok.iss] at h3
      have h4 := ok.szs
      have h5 : (S.chs.take (shr di S.chs.length)).length ≤ S.chs.length := by rw [List.length_take]; omega
      show Maps.size (runs (S.chs.take (shr di S.chs.length)) (dn S.syn)) ≤ 1000000
      omega
    · cases hf : S.fil f with
      | none => rw [hf] at a2; cases a2
      | some x =>
        rw [hf] at a2
        obtain rfl : leftOf ke te x = xs := by simpa using a2
        obtain ⟨g1, g2, g3, g4, g5, g6⟩ := M.fils.1 f x hf
        obtain ⟨ao, l, cap, hv, hsl, _⟩ := g2.sl' g3
        have hl : l = x.1.length := hsl.1.symm
        rw [hv] at g1
        obtain ⟨f', v, c1, c2, c3, c4⟩ := b5 s f ao l cap x.1 x.2 a1 g1 hsl
        rw [hl] at c3 c4
        exact ⟨f', v, _, c1, c3, c4, leftOf_byt g3, by have := leftOf_len ke te x; omega⟩

/-- The disk itself, as it is seen. -/
theorem Rep.seen {w : World} {B d : Nat} {S : AD} (h : Rep w B d S) (ok : S.ok) (hp : S.plain) (hm : IsMap S.now) : Seen w d (dn S.now) (fun f => (S.fil f).map (·.1)) S.ops := by
  obtain ⟨nb, sb, sv, cs, vf, M⟩ := h
  rcases M.now with ⟨rfl, e⟩ | ⟨b, n, rfl, ho⟩
  · obtain ⟨es, e2⟩ := hm
    rw [e] at e2
    cases e2
  · have hdk := M.dk
    rw [hp.2] at hdk
    have hid := own_dn ho
    refine ⟨b, _, _, _, _, _, S.now, B, hdk, own_size ho, by have := ok.szn; omega, fun k => by rw [hid], fun s f xs a1 a2 => ?_⟩
    cases hf : S.fil f with
    | none => rw [hf] at a2; cases a2
    | some x =>
      rw [hf] at a2
      obtain rfl : x.1 = xs := by simpa using a2
      obtain ⟨g1, g2, g3, g4, g5, g6⟩ := M.fils.1 f x hf
      rw [hid] at a1
      exact ⟨f, vf f, _, a1, g1, g2, g3, by omega⟩
end Go.Proofs.Ytolaagbdnchhiaa
