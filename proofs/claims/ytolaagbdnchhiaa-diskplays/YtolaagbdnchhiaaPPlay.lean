/-
  The calls of a script, done on a disk whose power may go.
-/
import Derived.Test.YtolaagbdnchhiaaPDisk2
import Derived.Test.YtolaagbdnchhiaaPlay
set_option linter.unusedVariables false
set_option linter.unusedSimpArgs false
namespace Go.Proofs.Ytolaagbdnchhiaa
open Go.RowKit Go.Maps

/-- A disk without memory, and whether its power is gone. -/
structure PS where
  P : PD
  gone : Bool
def PS.go (cutAt : Int) (cuts : Bool) (T : PS) (f : PD → PD) : PS := if T.gone = true ∨ (cuts = true ∧ cutAt ≤ T.P.n) then { T with gone := true } else { T with P := f T.P }
def PS.step (cutAt : Int) (cuts : Bool) (T : PS) (o : OpR) : PS :=
  if pk o.kind = 0 then T.go cutAt cuts (fun P => (P.app o.name o.bs).2) else
  if pk o.kind = 2 then T.go cutAt cuts (fun P => (P.sync o.name).2) else
  if pk o.kind = 3 then T.go cutAt cuts (fun P => (P.ren o.name o.to).2) else
  if pk o.kind = 4 then T.go cutAt cuts (fun P => (P.del o.name).2) else
  if pk o.kind = 5 then T.go cutAt cuts (fun P => P.syncDir.2) else T
def PS.play (cutAt : Int) (cuts : Bool) (T : PS) (os : List OpR) : PS := os.foldl (fun T o => T.step cutAt cuts o) T
abbrev DS (w : World) (B d : Nat) (T : PS) (cutAt : Int) (cuts : Bool) : Prop := DR w B d T.P cutAt cuts T.gone

/-- An operation, with power or without. -/
def Goes (w : World) (B d : Nat) (T : PS) (cutAt : Int) (cuts : Bool) (f : FuncId) (args : Array Value) (g : PD → PD) : Prop :=
  Calls Try.prog f args w fun e w' => ∃ x, e = .returned (.int .i64 x) ∧ DS w' B d (T.go cutAt cuts g) cutAt cuts ∧ Fr (FD B d) w w'

section
variable {w : World} {B d : Nat} {T : PS} {cutAt : Int} {cuts : Bool}

theorem goes_of {f : FuncId} {args : Array Value} {g : PD → PD} (h : DS w B d T cutAt cuts)
    (hon : On T.P.n cutAt cuts T.gone → Calls Try.prog f args w fun e w' => ∃ x, e = .returned (.int .i64 x) ∧ DR w' B d (g T.P) cutAt cuts T.gone ∧ Fr (FD B d) w w')
    (hoff : Off T.P.n cutAt cuts T.gone → ∀ now syn since, Dk w d now syn since T.P.n cutAt cuts T.gone → Calls Try.prog f args w fun e w' => e = .returned (.int .i64 24) ∧ Dk w' d now syn since T.P.n cutAt cuts true ∧ Fr (fun j => j = d) w w') :
    Goes w B d T cutAt cuts f args g := by
  unfold Goes PS.go
  by_cases hp : T.gone = true ∨ (cuts = true ∧ cutAt ≤ T.P.n)
  · rw [if_pos hp]
    refine (dr_power h (hoff hp)).mono ?_
    rintro e w' ⟨rfl, h1, h2⟩
    exact ⟨24, rfl, h1, h2⟩
  · rw [if_neg hp]
    refine (hon ⟨?_, ?_⟩).mono ?_
    · cases e : T.gone with
      | false => rfl
      | true => exact absurd (.inl e) hp
    · cases e : cuts with
      | false => exact .inl rfl
      | true => exact .inr (by rcases Int.lt_or_le T.P.n cutAt with h | h; exact h; exact absurd (.inr ⟨e, h⟩) hp)
    · rintro e w' ⟨x, rfl, h1, h2⟩
      exact ⟨x, rfl, h1, h2⟩

theorem goes_append (h : DS w B d T cutAt cuts) (hB : B ≤ w.heap.size) (s : ByteArray) (hs : s.size ≤ maxLen) (ao : Option Addr) (len cap : Nat) (xs : List Int) (hx : Sl w ao len cap xs) (hxa : 0 < len → ∀ b off, ao = some ⟨b, off, none⟩ → b < B ∧ b ≠ d) :
    Goes w B d T cutAt cuts 18 #[.pointer (some ⟨d, 0, none⟩), .string s, .slice ao len cap] (fun P => (P.app s xs).2) :=
  goes_of h (fun hon => (dr_append h hon hB s hs ao len cap xs hx hxa).mono fun e w' ⟨h1, h2, h3⟩ => ⟨_, h1, h2, h3⟩) (fun hoff now syn since hd => append_off hd hoff s _)
theorem goes_sync (h : DS w B d T cutAt cuts) (hB : B ≤ w.heap.size) (s : ByteArray) (hs : s.size ≤ maxLen) :
    Goes w B d T cutAt cuts 19 #[.pointer (some ⟨d, 0, none⟩), .string s] (fun P => (P.sync s).2) :=
  goes_of h (fun hon => (dr_sync h hon hB s hs).mono fun e w' ⟨h1, h2, h3⟩ => ⟨_, h1, h2, h3⟩) (fun hoff now syn since hd => sync_off hd hoff s)
theorem goes_rename (h : DS w B d T cutAt cuts) (hB : B ≤ w.heap.size) (s t : ByteArray) (hs : s.size ≤ maxLen) (ht : t.size ≤ maxLen) :
    Goes w B d T cutAt cuts 32 #[.pointer (some ⟨d, 0, none⟩), .string s, .string t] (fun P => (P.ren s t).2) :=
  goes_of h (fun hon => (dr_rename h hon hB s t hs ht).mono fun e w' ⟨h1, h2, h3⟩ => ⟨_, h1, h2, h3⟩) (fun hoff now syn since hd => rename_off hd hoff s t)
theorem goes_delete (h : DS w B d T cutAt cuts) (hB : B ≤ w.heap.size) (s : ByteArray) (hs : s.size ≤ maxLen) :
    Goes w B d T cutAt cuts 17 #[.pointer (some ⟨d, 0, none⟩), .string s] (fun P => (P.del s).2) :=
  goes_of h (fun hon => (dr_delete h hon hB s hs).mono fun e w' ⟨h1, h2, h3⟩ => ⟨_, h1, h2, h3⟩) (fun hoff now syn since hd => delete_off hd hoff s)
theorem goes_syncDir (h : DS w B d T cutAt cuts) (hB : B ≤ w.heap.size) :
    Goes w B d T cutAt cuts 20 #[.pointer (some ⟨d, 0, none⟩)] (fun P => P.syncDir.2) :=
  goes_of h (fun hon => (dr_syncDir h hon hB).mono fun e w' ⟨h1, h2, h3⟩ => ⟨_, h1, h2, h3⟩) (fun hoff now syn since hd => syncDir_off hd hoff)

theorem play_snoc (T : PS) (os : List OpR) (k : Nat) (o : OpR) (h : os[k]? = some o) : T.play cutAt cuts (os.take (k + 1)) = (T.play cutAt cuts (os.take k)).step cutAt cuts o := by
  unfold PS.play
  rw [List.take_add_one, h]
  simp
end

set_option maxRecDepth 100000 in
set_option maxHeartbeats 6000000 in
theorem play_ds {w : World} {B d : Nat} {T : PS} {cutAt : Int} {cuts : Bool} (h : DS w B d T cutAt cuts) (hB : B ≤ w.heap.size) (ao : Option Addr) (len cap : Nat) (os : List OpR) (hs : Sc w ao len cap os) (most : Nat) (hm : most ≤ 1000)
    (hlow : ∀ o ∈ os, 0 < o.bl → ∀ b off, o.bo = some ⟨b, off, none⟩ → b < B ∧ b ≠ d) (hlow0 : 0 < len → ∀ b off, ao = some ⟨b, off, none⟩ → b < B ∧ b ≠ d) :
    Calls Try.prog 16 #[.pointer (some ⟨d, 0, none⟩), .slice ao len cap, .int .i64 (most : Int)] w fun e w' => e = .returned (.tuple #[]) ∧ DS w' B d (T.play cutAt cuts (os.take most)) cutAt cuts ∧ Fr (FD B d) w w' := by
  have hlen63 : (len : Int) ≤ 9223372036854775807 := by have := hs.2.1; have := hs.2.2.1; unfold maxLen at this; omega
  have hm63 : (most : Int) ≤ 1000 := by omega
  go_enter Try.func16, Try.ntmps16
  go_wp2
  go_loopw [6, 7] (fun i _ wr => ∃ (k : Nat), k ≤ len ∧ k ≤ most ∧ i = .int .i64 (k : Int) ∧ DS wr B d (T.play cutAt cuts (os.take k)) cutAt cuts ∧ Fr (FD B d) w wr) (fun i _ _ => most - (intOf i).toNat)
  case atStart => exact ⟨0, by omega, by omega, rfl, h, Fr.refl _ _⟩
  case round =>
    obtain ⟨k, hk1, hk2, rfl, hr, hF⟩ := hrel
    by_cases hlt : k < len
    · by_cases hlt2 : k < most
      · obtain ⟨o, ho⟩ : ∃ o, os[k]? = some o := ⟨os[k]'(by rw [hs.1]; exact hlt), List.getElem?_eq_getElem (by rw [hs.1]; exact hlt)⟩
        obtain ⟨b, off, rfl, hbl, hcell⟩ := hs.2.2.2.2 (by omega)
        obtain ⟨hb1, hb2⟩ := hlow0 (by omega) b off rfl
        have hoo := hs.2.2.2.1 o (List.mem_of_getElem? ho)
        have hof := hoo.fr hB (hlow o (List.mem_of_getElem? ho)) hF
        have hnF : ¬ FD B d b := by rintro (e | e) <;> omega
        have cc : ∀ (j : Nat) (u : Value), o.cells[j]? = some u → wr.cell? ⟨b, off + k * 8 + j, none⟩ = some u := fun j u hu => (hF.cell (p := ⟨b, off + k * 8 + j, none⟩) hbl hnF).trans (hcell k o ho j u hu)
        have q0 : wr.cell? ⟨b, off + k * 8, none⟩ = some (.int .i64 o.kind) := cc 0 _ rfl
        have q1 := cc 1 _ rfl
        have q2 := cc 2 _ rfl
        have q3 := cc 3 _ rfl
        have q4 := cc 4 _ rfl
        have q5 := cc 5 _ rfl
        have q6 := cc 6 _ rfl
        have q7 := cc 7 _ rfl
        have hi1 : (k : Int) < (len : Int) := by omega
        have hi2 : (k : Int) < (most : Int) := by omega
        have hpick := fun W => pick_any o.kind W hoo.lo hoo.hi
        have hxlow := hlow o (List.mem_of_getElem? ho)
        have bA : Below wr.heap.size wr (wr.alloc (.cells #[.int .i64 o.kind, .string o.name, .string o.to, .slice o.bo o.bl o.bc, .int .i64 o.n, .int .i64 o.k1, .int .i64 o.k2, .int .i64 o.k3] 36)) := (Below.refl _ _).alloc (Nat.le_refl _) _
        have rA := hr.below bA
        have hBA : B ≤ (wr.alloc (.cells #[.int .i64 o.kind, .string o.name, .string o.to, .slice o.bo o.bl o.bc, .int .i64 o.n, .int .i64 o.k1, .int .i64 o.k2, .int .i64 o.k3] 36)).heap.size := by have := hF.size; have := bA.size; omega
        have FA := hide2 (hF.alloc (.cells #[.int .i64 o.kind, .string o.name, .string o.to, .slice o.bo o.bl o.bc, .int .i64 o.n, .int .i64 o.k1, .int .i64 o.k2, .int .i64 o.k3] 36))
        have oA := goes_append rA hBA o.name hof.nam o.bo o.bl o.bc o.bs (hof.sl.below bA) hxlow
        have oS := goes_sync rA hBA o.name hof.nam
        have oR := goes_rename rA hBA o.name o.to hof.nam hof.tos
        have oD := goes_delete rA hBA o.name hof.nam
        have oY := goes_syncDir rA hBA
        unfold Goes at oA oS oR oD oY
        have RA := hide2 rA
        have estep := play_snoc (cutAt := cutAt) (cuts := cuts) T os k o ho
        have ES := hide2 estep
        clear cc hcell hoo rA bA hr hF hof estep
        generalize hT' : T.play cutAt cuts (os.take k) = T' at *
        have hkk : pk o.kind = 0 ∨ pk o.kind = 1 ∨ pk o.kind = 2 ∨ pk o.kind = 3 ∨ pk o.kind = 4 ∨ pk o.kind = 5 ∨ pk o.kind = 6 ∨ pk o.kind = 7 ∨ pk o.kind = 8 := by have := pk_lt o.kind; omega
        clear hT'
        rcases hkk with hkk | hkk | hkk | hkk | hkk | hkk | hkk | hkk | hkk
        · have estep : T'.step cutAt cuts o = T'.go cutAt cuts (fun P => (P.app o.name o.bs).2) := by
            unfold PS.step
            rw [hkk]
            rfl
          have ES2 := hide2 (ES.out.trans estep)
          rw [hkk] at hpick
          clear estep ES hkk
          go_wp2_with (first
            | (go_at_call 28; refine (hpick _).mono ?_; rintro e w' ⟨rfl, rfl⟩)
            | (go_at_call 18; refine oA.mono ?_; rintro e w7 ⟨x, rfl, r2, F2⟩))
          go_roundw
          case rel => exact ⟨k + 1, by omega, by omega, by go_num, by rw [ES2.out]; exact r2, FA.out.trans F2 (fun j e => .inl e)⟩
          case measure => simp [intOf]; omega
        · have estep : T'.step cutAt cuts o = T' := by
            unfold PS.step
            rw [hkk]
            rfl
          have ES2 := hide2 (ES.out.trans estep)
          rw [hkk] at hpick
          clear estep ES hkk
          go_wp2_with (go_at_call 28; refine (hpick _).mono ?_; rintro e w' ⟨rfl, rfl⟩)
          go_roundw
          case rel => exact ⟨k + 1, by omega, by omega, by go_num, by rw [ES2.out]; exact RA.out, FA.out⟩
          case measure => simp [intOf]; omega
        · have estep : T'.step cutAt cuts o = T'.go cutAt cuts (fun P => (P.sync o.name).2) := by
            unfold PS.step
            rw [hkk]
            rfl
          have ES2 := hide2 (ES.out.trans estep)
          rw [hkk] at hpick
          clear estep ES hkk
          go_wp2_with (first
            | (go_at_call 28; refine (hpick _).mono ?_; rintro e w' ⟨rfl, rfl⟩)
            | (go_at_call 19; refine oS.mono ?_; rintro e w7 ⟨x, rfl, r2, F2⟩))
          go_roundw
          case rel => exact ⟨k + 1, by omega, by omega, by go_num, by rw [ES2.out]; exact r2, FA.out.trans F2 (fun j e => .inl e)⟩
          case measure => simp [intOf]; omega
        · have estep : T'.step cutAt cuts o = T'.go cutAt cuts (fun P => (P.ren o.name o.to).2) := by
            unfold PS.step
            rw [hkk]
            rfl
          have ES2 := hide2 (ES.out.trans estep)
          rw [hkk] at hpick
          clear estep ES hkk
          go_wp2_with (first
            | (go_at_call 28; refine (hpick _).mono ?_; rintro e w' ⟨rfl, rfl⟩)
            | (go_at_call 32; refine oR.mono ?_; rintro e w7 ⟨x, rfl, r2, F2⟩))
          go_roundw
          case rel => exact ⟨k + 1, by omega, by omega, by go_num, by rw [ES2.out]; exact r2, FA.out.trans F2 (fun j e => .inl e)⟩
          case measure => simp [intOf]; omega
        · have estep : T'.step cutAt cuts o = T'.go cutAt cuts (fun P => (P.del o.name).2) := by
            unfold PS.step
            rw [hkk]
            rfl
          have ES2 := hide2 (ES.out.trans estep)
          rw [hkk] at hpick
          clear estep ES hkk
          go_wp2_with (first
            | (go_at_call 28; refine (hpick _).mono ?_; rintro e w' ⟨rfl, rfl⟩)
            | (go_at_call 17; refine oD.mono ?_; rintro e w7 ⟨x, rfl, r2, F2⟩))
          go_roundw
          case rel => exact ⟨k + 1, by omega, by omega, by go_num, by rw [ES2.out]; exact r2, FA.out.trans F2 (fun j e => .inl e)⟩
          case measure => simp [intOf]; omega
        · have estep : T'.step cutAt cuts o = T'.go cutAt cuts (fun P => P.syncDir.2) := by
            unfold PS.step
            rw [hkk]
            rfl
          have ES2 := hide2 (ES.out.trans estep)
          rw [hkk] at hpick
          clear estep ES hkk
          go_wp2_with (first
            | (go_at_call 28; refine (hpick _).mono ?_; rintro e w' ⟨rfl, rfl⟩)
            | (go_at_call 20; refine oY.mono ?_; rintro e w7 ⟨x, rfl, r2, F2⟩))
          go_roundw
          case rel => exact ⟨k + 1, by omega, by omega, by go_num, by rw [ES2.out]; exact r2, FA.out.trans F2 (fun j e => .inl e)⟩
          case measure => simp [intOf]; omega
        · have estep : T'.step cutAt cuts o = T' := by
            unfold PS.step
            rw [hkk]
            rfl
          have ES2 := hide2 (ES.out.trans estep)
          rw [hkk] at hpick
          clear estep ES hkk
          go_wp2_with (go_at_call 28; refine (hpick _).mono ?_; rintro e w' ⟨rfl, rfl⟩)
          go_roundw
          case rel => exact ⟨k + 1, by omega, by omega, by go_num, by rw [ES2.out]; exact RA.out, FA.out⟩
          case measure => simp [intOf]; omega
        · have estep : T'.step cutAt cuts o = T' := by
            unfold PS.step
            rw [hkk]
            rfl
          have ES2 := hide2 (ES.out.trans estep)
          rw [hkk] at hpick
          clear estep ES hkk
          go_wp2_with (go_at_call 28; refine (hpick _).mono ?_; rintro e w' ⟨rfl, rfl⟩)
          go_roundw
          case rel => exact ⟨k + 1, by omega, by omega, by go_num, by rw [ES2.out]; exact RA.out, FA.out⟩
          case measure => simp [intOf]; omega
        · have estep : T'.step cutAt cuts o = T' := by
            unfold PS.step
            rw [hkk]
            rfl
          have ES2 := hide2 (ES.out.trans estep)
          rw [hkk] at hpick
          clear estep ES hkk
          go_wp2_with (go_at_call 28; refine (hpick _).mono ?_; rintro e w' ⟨rfl, rfl⟩)
          go_roundw
          case rel => exact ⟨k + 1, by omega, by omega, by go_num, by rw [ES2.out]; exact RA.out, FA.out⟩
          case measure => simp [intOf]; omega
      · go_wp2
        go_end0
        obtain rfl : k = most := by omega
        exact ⟨rfl, hr, hF⟩
    · go_wp2
      go_end0
      have e1 : os.take most = os.take k := by rw [List.take_of_length_le (by rw [hs.1]; omega), List.take_of_length_le (by rw [hs.1]; omega)]
      rw [e1]
      exact ⟨rfl, hr, hF⟩
end Go.Proofs.Ytolaagbdnchhiaa
