/-
  The calls of a script, done on a disk, and what every call keeps.
-/
import Derived.Test.YtolaagbdnchhiaaPlay
import Derived.Test.YtolaagbdnchhiaaKeeps
set_option linter.unusedVariables false
set_option linter.unusedSimpArgs false
namespace Go.Proofs.Ytolaagbdnchhiaa
open Go.RowKit Go.Maps

/-- What is so behind k calls is so behind one more, if that is this one. -/
structure QP (Q : Nat → AD → Prop) (o : OpR) : Prop where
  idle : ∀ k S, Q k S → Q (k + 1) S
  del : ∀ k S, S.ok → Q k S → Q (k + 1) (S.did (.del o.name))
  ren : ∀ k S f, S.ok → Q k S → To (dn S.now) o.name f → Q (k + 1) (S.did (.ren o.name o.to))
  made : ∀ k S f xs, S.ok → Q k S → S.fil f = none → Q (k + 1) (S.made o.name f xs)
  grown : ∀ k S f y xs, S.ok → Q k S → To (dn S.now) o.name f → Q (k + 1) (S.grown f y xs)
  synced : ∀ k S f y, S.ok → Q k S → To (dn S.now) o.name f → Q (k + 1) (S.synced f y)
  sync : ∀ k S, S.ok → Q k S → Q (k + 1) S.dirSynced

theorem lead_to {S : AD} (ok : S.ok) {s : ByteArray} {a : Addr} (h : Leads S.now s (some a)) : ∃ f, To (dn S.now) s f := by
  rcases ok.lead s with ⟨_, h2⟩ | ⟨f, _, _, h2, _⟩
  · have e := h2.symm.trans h
    simp at e
  · exact ⟨f, h2⟩

/-- An operation leaves a disk that nobody cuts off as such a one, with all that is kept. -/
def DoesQ (R : AD → Prop) (W : World) (B d : Nat) (f : FuncId) (args : Array Value) : Prop :=
  Calls Try.prog f args W fun e w' => ∃ x S', e = .returned (.int .i64 x) ∧ Rep w' B d S' ∧ S'.ok ∧ S'.plain ∧ R S' ∧ Fr (FD B d) W w'

section
variable {w : World} {B d : Nat} {S : AD} {Q : Nat → AD → Prop} {k : Nat} {o : OpR}
theorem doesQ_append (h : Rep w B d S) (ok : S.ok) (hp : S.plain) (hq : Q k S) (qp : QP Q o) (hB : B ≤ w.heap.size) (hs : o.name.size ≤ maxLen) (ao : Option Addr) (len cap : Nat) (xs : List Int) (hx : Sl w ao len cap xs) (hxa : 0 < len → ∀ b off, ao = some ⟨b, off, none⟩ → b < B ∧ b ≠ d) :
    DoesQ (Q (k + 1)) w B d 18 #[.pointer (some ⟨d, 0, none⟩), .string o.name, .slice ao len cap] := by
  refine (rep_append h ok hp.on hB o.name hs ao len cap xs hx hxa).mono ?_
  rintro e w' ⟨x, S', rfl, h1, h2, h3, h4⟩
  rcases h4 with ⟨_, _, rfl⟩ | ⟨_, _, rfl, _⟩ | ⟨_, _, _, _, _, _, f, hf, _, rfl⟩ | ⟨_, _, _, f, y, hat, _, _, rfl⟩
  · exact ⟨x, _, rfl, h1, h2, hp, qp.idle k _ hq, h3⟩
  · exact ⟨x, _, rfl, h1, h2, hp, qp.idle k _ hq, h3⟩
  · exact ⟨x, _, rfl, h1, h2, hp, qp.made k _ f xs ok hq hf, h3⟩
  · exact ⟨x, _, rfl, h1, h2, hp, qp.grown k _ f y xs ok hq hat, h3⟩
theorem doesQ_sync (h : Rep w B d S) (ok : S.ok) (hp : S.plain) (hq : Q k S) (qp : QP Q o) (hB : B ≤ w.heap.size) (hs : o.name.size ≤ maxLen) : DoesQ (Q (k + 1)) w B d 19 #[.pointer (some ⟨d, 0, none⟩), .string o.name] := by
  refine (rep_sync h ok hp.on hB o.name hs).mono ?_
  rintro e w' ⟨x, S', rfl, h1, h2, h3, h4, h5, _⟩
  by_cases e : x = 0
  · obtain ⟨f, y, hat, _, rfl, _⟩ := h5 e
    exact ⟨x, _, rfl, h1, h2, hp, qp.synced k _ f y ok hq hat, h3⟩
  · obtain rfl := h4 e
    exact ⟨x, _, rfl, h1, h2, hp, qp.idle k _ hq, h3⟩
theorem doesQ_rename (h : Rep w B d S) (ok : S.ok) (hp : S.plain) (hq : Q k S) (qp : QP Q o) (hB : B ≤ w.heap.size) (hs : o.name.size ≤ maxLen) (ht : o.to.size ≤ maxLen) : DoesQ (Q (k + 1)) w B d 32 #[.pointer (some ⟨d, 0, none⟩), .string o.name, .string o.to] := by
  refine (rep_rename h ok hp.on hB o.name o.to hs ht).mono ?_
  rintro e w' ⟨x, S', rfl, h1, h2, h3, h4, h5, p, hp2, hx⟩
  by_cases e : x = 0
  · obtain ⟨rfl, _⟩ := h5 e
    rw [e] at hx
    obtain ⟨_, ⟨a, rfl⟩, _⟩ := code_zero hx.symm
    obtain ⟨f, hf⟩ := lead_to ok hp2
    exact ⟨x, _, rfl, h1, h2, hp, qp.ren k _ f ok hq hf, h3⟩
  · obtain rfl := h4 e
    exact ⟨x, _, rfl, h1, h2, hp, qp.idle k _ hq, h3⟩
theorem doesQ_delete (h : Rep w B d S) (ok : S.ok) (hp : S.plain) (hq : Q k S) (qp : QP Q o) (hB : B ≤ w.heap.size) (hs : o.name.size ≤ maxLen) : DoesQ (Q (k + 1)) w B d 17 #[.pointer (some ⟨d, 0, none⟩), .string o.name] := by
  refine (rep_delete h ok hp.on hB o.name hs).mono ?_
  rintro e w' ⟨x, S', rfl, h1, h2, h3, h4, h5, _⟩
  by_cases e : x = 0
  · obtain ⟨rfl, _⟩ := h5 e
    exact ⟨x, _, rfl, h1, h2, hp, qp.del k _ ok hq, h3⟩
  · obtain rfl := h4 e
    exact ⟨x, _, rfl, h1, h2, hp, qp.idle k _ hq, h3⟩
theorem doesQ_syncDir (h : Rep w B d S) (ok : S.ok) (hp : S.plain) (hq : Q k S) (qp : QP Q o) (hB : B ≤ w.heap.size) : DoesQ (Q (k + 1)) w B d 20 #[.pointer (some ⟨d, 0, none⟩)] := by
  refine (rep_syncDir h ok hp.on hB).mono ?_
  rintro e w' ⟨x, S', rfl, h1, h2, h3, _, h5⟩
  by_cases e : 65536 ≤ S.ops
  · rw [if_pos e] at h5
    subst h5
    exact ⟨x, _, rfl, h1, h2, hp, qp.idle k _ hq, h3⟩
  · rw [if_neg e] at h5
    subst h5
    exact ⟨x, _, rfl, h1, h2, hp, qp.sync k _ ok hq, h3⟩
end

set_option maxHeartbeats 4000000 in
set_option maxRecDepth 100000 in
theorem play_q {w : World} {B d : Nat} {S : AD} {Q : Nat → AD → Prop} (k0 : Nat) (h : Rep w B d S) (ok : S.ok) (hp : S.plain) (hq : Q k0 S) (hB : B ≤ w.heap.size) (ao : Option Addr) (len cap : Nat) (os : List OpR) (hs : Sc w ao len cap os) (most : Nat) (hm : most ≤ 1000)
    (hlow : ∀ o ∈ os, 0 < o.bl → ∀ b off, o.bo = some ⟨b, off, none⟩ → b < B ∧ b ≠ d) (hqp : ∀ o ∈ os, QP Q o) (hlow0 : 0 < len → ∀ b off, ao = some ⟨b, off, none⟩ → b < B ∧ b ≠ d) :
    Calls Try.prog 16 #[.pointer (some ⟨d, 0, none⟩), .slice ao len cap, .int .i64 (most : Int)] w fun e w' => e = .returned (.tuple #[]) ∧ ∃ S' k', k' ≤ len ∧ k' ≤ most ∧ Rep w' B d S' ∧ S'.ok ∧ S'.plain ∧ Q (k0 + k') S' ∧ Fr (FD B d) w w' := by
  have hlen63 : (len : Int) ≤ 9223372036854775807 := by have := hs.2.1; have := hs.2.2.1; unfold maxLen at this; omega
  have hm63 : (most : Int) ≤ 1000 := by omega
  go_enter Try.func16, Try.ntmps16
  go_wp2
  go_loopw [6, 7] (fun i _ wr => ∃ (k : Nat) (S' : AD), k ≤ len ∧ k ≤ most ∧ i = .int .i64 (k : Int) ∧ Rep wr B d S' ∧ S'.ok ∧ S'.plain ∧ Q (k0 + k) S' ∧ Fr (FD B d) w wr) (fun i _ _ => most - (intOf i).toNat)
  case atStart => exact ⟨0, S, by omega, by omega, rfl, h, ok, hp, hq, Fr.refl _ _⟩
  case round =>
    obtain ⟨k, S', hk1, hk2, rfl, hr, hok, hpl, hqk, hF⟩ := hrel
    by_cases hlt : k < len
    · by_cases hlt2 : k < most
      · obtain ⟨o, ho⟩ : ∃ o, os[k]? = some o := ⟨os[k]'(by rw [hs.1]; exact hlt), List.getElem?_eq_getElem (by rw [hs.1]; exact hlt)⟩
        obtain ⟨b, off, rfl, hbl, hcell⟩ := hs.2.2.2.2 (by omega)
        obtain ⟨hb1, hb2⟩ := hlow0 (by omega) b off rfl
        have hoo := hs.2.2.2.1 o (List.mem_of_getElem? ho)
        have hof := hoo.fr hB (hlow o (List.mem_of_getElem? ho)) hF
        have hnF : ¬ FD B d b := by rintro (e | e) <;> omega
        have cc : ∀ (j : Nat) (u : Value), o.cells[j]? = some u → wr.cell? ⟨b, off + k * 8 + j, none⟩ = some u := fun j u hu => (hF.cell (p := ⟨b, off + k * 8 + j, none⟩) hbl hnF).trans (hcell k o ho j u hu)
        have q0 : wr.cell? ⟨b, off + k * 8, none⟩ = some (.int .i64 o.kind) := cc 0 _ rfl
        have q1 := cc 1 _ rfl
        have q2 := cc 2 _ rfl
        have q3 := cc 3 _ rfl
        have q4 := cc 4 _ rfl
        have q5 := cc 5 _ rfl
        have q6 := cc 6 _ rfl
        have q7 := cc 7 _ rfl
        have hi1 : (k : Int) < (len : Int) := by omega
        have hi2 : (k : Int) < (most : Int) := by omega
        have hpick := fun W => pick_any o.kind W hoo.lo hoo.hi
        have hxlow := hlow o (List.mem_of_getElem? ho)
        have bA : Below wr.heap.size wr (wr.alloc (.cells #[.int .i64 o.kind, .string o.name, .string o.to, .slice o.bo o.bl o.bc, .int .i64 o.n, .int .i64 o.k1, .int .i64 o.k2, .int .i64 o.k3] 36)) := (Below.refl _ _).alloc (Nat.le_refl _) _
        have rA := hr.below bA
        have hBA : B ≤ (wr.alloc (.cells #[.int .i64 o.kind, .string o.name, .string o.to, .slice o.bo o.bl o.bc, .int .i64 o.n, .int .i64 o.k1, .int .i64 o.k2, .int .i64 o.k3] 36)).heap.size := by have := hF.size; have := bA.size; omega
        have FA := hide2 (hF.alloc (.cells #[.int .i64 o.kind, .string o.name, .string o.to, .slice o.bo o.bl o.bc, .int .i64 o.n, .int .i64 o.k1, .int .i64 o.k2, .int .i64 o.k3] 36))
        have hqo := hqp o (List.mem_of_getElem? ho)
        have HQ := hide2 (hqo.idle _ _ hqk)
        have oA := doesQ_append rA hok hpl hqk hqo hBA hof.nam o.bo o.bl o.bc o.bs (hof.sl.below bA) hxlow
        have oS := doesQ_sync rA hok hpl hqk hqo hBA hof.nam
        have oR := doesQ_rename rA hok hpl hqk hqo hBA hof.nam hof.tos
        have oD := doesQ_delete rA hok hpl hqk hqo hBA hof.nam
        have oY := doesQ_syncDir rA hok hpl hqk hqo hBA
        unfold DoesQ at oA oS oR oD oY
        have RA := hide2 rA
        have HOK := hide2 hok
        have HPL := hide2 hpl
        clear cc hcell hoo rA bA hr hF hok hpl hof
        go_wp2_with (first
          | (go_at_call 28; refine (hpick _).mono ?_; rintro e w' ⟨rfl, rfl⟩)
          | (go_at_call 18; refine oA.mono ?_; rintro e w7 ⟨x, S2, rfl, r2, ok2, pl2, qq2, F2⟩)
          | (go_at_call 19; refine oS.mono ?_; rintro e w7 ⟨x, S2, rfl, r2, ok2, pl2, qq2, F2⟩)
          | (go_at_call 32; refine oR.mono ?_; rintro e w7 ⟨x, S2, rfl, r2, ok2, pl2, qq2, F2⟩)
          | (go_at_call 17; refine oD.mono ?_; rintro e w7 ⟨x, S2, rfl, r2, ok2, pl2, qq2, F2⟩)
          | (go_at_call 20; refine oY.mono ?_; rintro e w7 ⟨x, S2, rfl, r2, ok2, pl2, qq2, F2⟩))
        all_goals go_roundw
        all_goals first
          | (case rel => first
              | exact ⟨k + 1, S2, by omega, by omega, by go_num, r2, ok2, pl2, qq2, FA.out.trans F2 (fun j e => .inl e)⟩
              | exact ⟨k + 1, S', by omega, by omega, by go_num, RA.out, HOK.out, HPL.out, HQ.out, FA.out⟩)
          | (case measure => simp [intOf]; omega)
          | (simp [intOf]; omega)
      · go_wp2
        go_end0
        exact ⟨rfl, S', k, hk1, hk2, hr, hok, hpl, hqk, hF⟩
    · go_wp2
      go_end0
      exact ⟨rfl, S', k, hk1, hk2, hr, hok, hpl, hqk, hF⟩
end Go.Proofs.Ytolaagbdnchhiaa
