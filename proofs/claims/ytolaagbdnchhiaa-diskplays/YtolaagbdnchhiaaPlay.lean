/-
  The calls of a script, done on a disk.
-/
import Derived.Test.YtolaagbdnchhiaaRepApp
set_option linter.unusedVariables false
set_option linter.unusedSimpArgs false
namespace Go.Proofs.Ytolaagbdnchhiaa
open Go.RowKit Go.Maps

/-- Which of nine things a number speaks of. -/
def pk (c : Int) : Nat := ((if c < 0 then -(c + 1) else c) % 9).toNat
theorem pk_lt (c : Int) : pk c < 9 := by unfold pk; omega

set_option maxHeartbeats 400000 in
theorem pick_any (c : Int) (w : World) (h0 : -9223372036854775808 ≤ c) (h1 : c ≤ 9223372036854775807) :
    Calls Try.prog 28 #[.int .i64 c, .int .i64 9] w fun e w' => e = .returned (.int .i64 (pk c : Int)) ∧ w' = w := by
  by_cases hc : c < 0
  · have e : (pk c : Int) = -((c + 1).tmod 9) := by
      rw [← Int.neg_tmod, Int.tmod_eq_emod_of_nonneg (by omega)]
      unfold pk
      rw [if_pos hc]
      omega
    have E := hide2 e
    clear e
    go_enter Try.func28, Try.ntmps28
    go_wp2
    go_ret
    exact ⟨ret_int E.out.symm, rfl⟩
  · have e : (pk c : Int) = c % 9 := by unfold pk; rw [if_neg hc]; omega
    have E := hide2 e
    clear e
    go_enter Try.func28, Try.ntmps28
    go_wp2
    go_ret
    exact ⟨ret_int E.out.symm, rfl⟩

/-- A call of a script, as it lies in memory. -/
structure OpR where
  kind : Int
  name : ByteArray
  to : ByteArray
  bo : Option Addr
  bl : Nat
  bc : Nat
  bs : List Int
  n : Int
  k1 : Int
  k2 : Int
  k3 : Int

def OpR.cells (o : OpR) : List Value := [.int .i64 o.kind, .string o.name, .string o.to, .slice o.bo o.bl o.bc, .int .i64 o.n, .int .i64 o.k1, .int .i64 o.k2, .int .i64 o.k3]

/-- What a call is good for. -/
structure OpR.ok (w : World) (o : OpR) : Prop where
  lo : -9223372036854775808 ≤ o.kind
  hi : o.kind ≤ 9223372036854775807
  nam : o.name.size ≤ maxLen
  tos : o.to.size ≤ maxLen
  sl : Sl w o.bo o.bl o.bc o.bs

/-- A script that is read. -/
def Sc (w : World) (ao : Option Addr) (len cap : Nat) (os : List OpR) : Prop :=
  os.length = len ∧ len ≤ cap ∧ cap ≤ maxLen ∧ (∀ o ∈ os, o.ok w) ∧
  (0 < len → ∃ b off, ao = some ⟨b, off, none⟩ ∧ b < w.heap.size ∧ ∀ (i : Nat) (o : OpR), os[i]? = some o → ∀ j u, o.cells[j]? = some u → w.cell? ⟨b, off + i * 8 + j, none⟩ = some u)

/-- All that the script reads lies below B, and is not d. -/
theorem OpR.ok.fr {B d : Nat} {w w' : World} {o : OpR} (h : o.ok w) (hB : B ≤ w.heap.size) (hlow : 0 < o.bl → ∀ b off, o.bo = some ⟨b, off, none⟩ → b < B ∧ b ≠ d) (F : Fr (FD B d) w w') : o.ok w' :=
  ⟨h.lo, h.hi, h.nam, h.tos, h.sl.fr F fun h0 b off e hF => by
    obtain ⟨h1, h2⟩ := hlow h0 b off e
    rcases hF with hF | hF
    · exact h2 hF
    · omega⟩

/-- A disk that nobody cuts off. -/
def AD.plain (S : AD) : Prop := S.cuts = false ∧ S.gone = false
theorem AD.plain.on {S : AD} (h : S.plain) : On S.ops S.cutAt S.cuts S.gone := ⟨h.2, .inl h.1⟩

/-- An operation leaves a disk that nobody cuts off as such a one. -/
def Does (W : World) (B d : Nat) (f : FuncId) (args : Array Value) : Prop :=
  Calls Try.prog f args W fun e w' => ∃ x S', e = .returned (.int .i64 x) ∧ Rep w' B d S' ∧ S'.ok ∧ S'.plain ∧ Fr (FD B d) W w'

section
variable {w : World} {B d : Nat} {S : AD}
theorem does_append (h : Rep w B d S) (ok : S.ok) (hp : S.plain) (hB : B ≤ w.heap.size) (s : ByteArray) (hs : s.size ≤ maxLen) (ao : Option Addr) (len cap : Nat) (xs : List Int) (hx : Sl w ao len cap xs) (hxa : 0 < len → ∀ b off, ao = some ⟨b, off, none⟩ → b < B ∧ b ≠ d) :
    Does w B d 18 #[.pointer (some ⟨d, 0, none⟩), .string s, .slice ao len cap] := by
  refine (rep_append h ok hp.on hB s hs ao len cap xs hx hxa).mono ?_
  rintro e w' ⟨x, S', rfl, h1, h2, h3, h4⟩
  refine ⟨x, S', rfl, h1, h2, ?_, h3⟩
  rcases h4 with ⟨_, _, rfl⟩ | ⟨_, _, rfl, _⟩ | ⟨_, _, _, _, _, _, f, _, _, rfl⟩ | ⟨_, _, _, f, y, _, _, _, rfl⟩
  · exact hp
  · exact hp
  · exact hp
  · exact hp
theorem does_sync (h : Rep w B d S) (ok : S.ok) (hp : S.plain) (hB : B ≤ w.heap.size) (s : ByteArray) (hs : s.size ≤ maxLen) : Does w B d 19 #[.pointer (some ⟨d, 0, none⟩), .string s] := by
  refine (rep_sync h ok hp.on hB s hs).mono ?_
  rintro e w' ⟨x, S', rfl, h1, h2, h3, h4, h5, _⟩
  refine ⟨x, S', rfl, h1, h2, ?_, h3⟩
  by_cases e : x = 0
  · obtain ⟨f, y, _, _, rfl, _⟩ := h5 e; exact hp
  · rw [h4 e]; exact hp
theorem does_rename (h : Rep w B d S) (ok : S.ok) (hp : S.plain) (hB : B ≤ w.heap.size) (s t : ByteArray) (hs : s.size ≤ maxLen) (ht : t.size ≤ maxLen) : Does w B d 32 #[.pointer (some ⟨d, 0, none⟩), .string s, .string t] := by
  refine (rep_rename h ok hp.on hB s t hs ht).mono ?_
  rintro e w' ⟨x, S', rfl, h1, h2, h3, h4, h5, _⟩
  refine ⟨x, S', rfl, h1, h2, ?_, h3⟩
  by_cases e : x = 0
  · rw [(h5 e).1]; exact hp
  · rw [h4 e]; exact hp
theorem does_delete (h : Rep w B d S) (ok : S.ok) (hp : S.plain) (hB : B ≤ w.heap.size) (s : ByteArray) (hs : s.size ≤ maxLen) : Does w B d 17 #[.pointer (some ⟨d, 0, none⟩), .string s] := by
  refine (rep_delete h ok hp.on hB s hs).mono ?_
  rintro e w' ⟨x, S', rfl, h1, h2, h3, h4, h5, _⟩
  refine ⟨x, S', rfl, h1, h2, ?_, h3⟩
  by_cases e : x = 0
  · rw [(h5 e).1]; exact hp
  · rw [h4 e]; exact hp
theorem does_syncDir (h : Rep w B d S) (ok : S.ok) (hp : S.plain) (hB : B ≤ w.heap.size) : Does w B d 20 #[.pointer (some ⟨d, 0, none⟩)] := by
  refine (rep_syncDir h ok hp.on hB).mono ?_
  rintro e w' ⟨x, S', rfl, h1, h2, h3, _, h5⟩
  refine ⟨x, S', rfl, h1, h2, ?_, h3⟩
  rw [h5]
  split <;> exact hp
end

set_option maxHeartbeats 4000000 in
set_option maxRecDepth 100000 in
theorem play_any {w : World} {B d : Nat} {S : AD} (h : Rep w B d S) (ok : S.ok) (hp : S.plain) (hB : B ≤ w.heap.size) (ao : Option Addr) (len cap : Nat) (os : List OpR) (hs : Sc w ao len cap os) (most : Nat) (hm : most ≤ 1000)
    (hlow : ∀ o ∈ os, 0 < o.bl → ∀ b off, o.bo = some ⟨b, off, none⟩ → b < B ∧ b ≠ d) (hlow0 : 0 < len → ∀ b off, ao = some ⟨b, off, none⟩ → b < B ∧ b ≠ d) :
    Calls Try.prog 16 #[.pointer (some ⟨d, 0, none⟩), .slice ao len cap, .int .i64 (most : Int)] w fun e w' => e = .returned (.tuple #[]) ∧ ∃ S', Rep w' B d S' ∧ S'.ok ∧ S'.plain ∧ Fr (FD B d) w w' := by
  have hlen63 : (len : Int) ≤ 9223372036854775807 := by have := hs.2.1; have := hs.2.2.1; unfold maxLen at this; omega
  have hm63 : (most : Int) ≤ 1000 := by omega
  go_enter Try.func16, Try.ntmps16
  go_wp2
  go_loopw [6, 7] (fun i _ wr => ∃ (k : Nat) (S' : AD), k ≤ len ∧ k ≤ most ∧ i = .int .i64 (k : Int) ∧ Rep wr B d S' ∧ S'.ok ∧ S'.plain ∧ Fr (FD B d) w wr) (fun i _ _ => most - (intOf i).toNat)
  case atStart => exact ⟨0, S, by omega, by omega, rfl, h, ok, hp, Fr.refl _ _⟩
  case round =>
    obtain ⟨k, S', hk1, hk2, rfl, hr, hok, hpl, hF⟩ := hrel
    by_cases hlt : k < len
    · by_cases hlt2 : k < most
      · obtain ⟨o, ho⟩ : ∃ o, os[k]? = some o := ⟨os[k]'(by rw [hs.1]; exact hlt), List.getElem?_eq_getElem (by rw [hs.1]; exact hlt)⟩
        obtain ⟨b, off, rfl, hbl, hcell⟩ := hs.2.2.2.2 (by omega)
        obtain ⟨hb1, hb2⟩ := hlow0 (by omega) b off rfl
        have hoo := hs.2.2.2.1 o (List.mem_of_getElem? ho)
        have hof := hoo.fr hB (hlow o (List.mem_of_getElem? ho)) hF
        have hnF : ¬ FD B d b := by rintro (e | e) <;> omega
        have cc : ∀ (j : Nat) (u : Value), o.cells[j]? = some u → wr.cell? ⟨b, off + k * 8 + j, none⟩ = some u := fun j u hu => (hF.cell (p := ⟨b, off + k * 8 + j, none⟩) hbl hnF).trans (hcell k o ho j u hu)
        have q0 : wr.cell? ⟨b, off + k * 8, none⟩ = some (.int .i64 o.kind) := cc 0 _ rfl
        have q1 := cc 1 _ rfl
        have q2 := cc 2 _ rfl
        have q3 := cc 3 _ rfl
        have q4 := cc 4 _ rfl
        have q5 := cc 5 _ rfl
        have q6 := cc 6 _ rfl
        have q7 := cc 7 _ rfl
        have hi1 : (k : Int) < (len : Int) := by omega
        have hi2 : (k : Int) < (most : Int) := by omega
        have hpick := fun W => pick_any o.kind W hoo.lo hoo.hi
        have hxlow := hlow o (List.mem_of_getElem? ho)
        have bA : Below wr.heap.size wr (wr.alloc (.cells #[.int .i64 o.kind, .string o.name, .string o.to, .slice o.bo o.bl o.bc, .int .i64 o.n, .int .i64 o.k1, .int .i64 o.k2, .int .i64 o.k3] 36)) := (Below.refl _ _).alloc (Nat.le_refl _) _
        have rA := hr.below bA
        have hBA : B ≤ (wr.alloc (.cells #[.int .i64 o.kind, .string o.name, .string o.to, .slice o.bo o.bl o.bc, .int .i64 o.n, .int .i64 o.k1, .int .i64 o.k2, .int .i64 o.k3] 36)).heap.size := by have := hF.size; have := bA.size; omega
        have FA := hide2 (hF.alloc (.cells #[.int .i64 o.kind, .string o.name, .string o.to, .slice o.bo o.bl o.bc, .int .i64 o.n, .int .i64 o.k1, .int .i64 o.k2, .int .i64 o.k3] 36))
        have oA := does_append rA hok hpl hBA o.name hof.nam o.bo o.bl o.bc o.bs (hof.sl.below bA) hxlow
        have oS := does_sync rA hok hpl hBA o.name hof.nam
        have oR := does_rename rA hok hpl hBA o.name o.to hof.nam hof.tos
        have oD := does_delete rA hok hpl hBA o.name hof.nam
        have oY := does_syncDir rA hok hpl hBA
        unfold Does at oA oS oR oD oY
        have RA := hide2 rA
        have HOK := hide2 hok
        have HPL := hide2 hpl
        clear cc hcell hoo rA bA hr hF hok hpl hof
        go_wp2_with (first
          | (go_at_call 28; refine (hpick _).mono ?_; rintro e w' ⟨rfl, rfl⟩)
          | (go_at_call 18; refine oA.mono ?_; rintro e w7 ⟨x, S2, rfl, r2, ok2, pl2, F2⟩)
          | (go_at_call 19; refine oS.mono ?_; rintro e w7 ⟨x, S2, rfl, r2, ok2, pl2, F2⟩)
          | (go_at_call 32; refine oR.mono ?_; rintro e w7 ⟨x, S2, rfl, r2, ok2, pl2, F2⟩)
          | (go_at_call 17; refine oD.mono ?_; rintro e w7 ⟨x, S2, rfl, r2, ok2, pl2, F2⟩)
          | (go_at_call 20; refine oY.mono ?_; rintro e w7 ⟨x, S2, rfl, r2, ok2, pl2, F2⟩))
        all_goals go_roundw
        all_goals first
          | (case rel => first
              | exact ⟨k + 1, S2, by omega, by omega, by go_num, r2, ok2, pl2, FA.out.trans F2 (fun j e => .inl e)⟩
              | exact ⟨k + 1, S', by omega, by omega, by go_num, RA.out, HOK.out, HPL.out, FA.out⟩)
          | (case measure => simp [intOf]; omega)
          | (simp [intOf]; omega)
      · go_wp2
        go_end0
        exact ⟨rfl, S', hr, hok, hpl, hF⟩
    · go_wp2
      go_end0
      exact ⟨rfl, S', hr, hok, hpl, hF⟩
end Go.Proofs.Ytolaagbdnchhiaa
