/-
  A disk in memory is one without memory: what each operation answers, and leaves.
-/
import Derived.Test.YtolaagbdnchhiaaPDisk
import Derived.Test.YtolaagbdnchhiaaOff
set_option linter.unusedVariables false
set_option linter.unusedSimpArgs false
namespace Go.Proofs.Ytolaagbdnchhiaa
open Go.RowKit Go.Maps

/-- What is answered of a name that must be there. -/
def pcode (n : Bool) (q : Option Nat) (ops : Int) : Int := if n = false then 20 else if q = none then 21 else if 65536 ≤ ops then 23 else 0
def PD.at (P : PD) (i : Nat) : List Int × Nat := P.fil.getD i ([], 0)

def PD.app (P : PD) (s : ByteArray) (xs : List Int) : Int × PD :=
  if isName s = false then (20, P) else
  match plook (kl s) P.now with
  | none => if 65536 ≤ P.n ∨ 262144 < xs.length ∨ 64 ≤ P.now.length then (23, P) else (0, { P with log := P.log ++ [.mk s P.fil.length], fil := P.fil ++ [(xs, 0)], n := P.n + 1 })
  | some i => if 65536 ≤ P.n ∨ 262144 < xs.length + (P.at i).1.length then (23, P) else (0, { P with fil := P.fil.set i ((P.at i).1 ++ xs, (P.at i).2), n := P.n + 1 })
def PD.sync (P : PD) (s : ByteArray) : Int × PD :=
  if pcode (isName s) (plook (kl s) P.now) P.n = 0 then
    (0, match plook (kl s) P.now with | some i => { P with fil := P.fil.set i ((P.at i).1, (P.at i).1.length), n := P.n + 1 } | none => P)
  else (pcode (isName s) (plook (kl s) P.now) P.n, P)
def PD.del (P : PD) (s : ByteArray) : Int × PD :=
  if pcode (isName s) (plook (kl s) P.now) P.n = 0 then (0, { P with log := P.log ++ [.del s], n := P.n + 1 }) else (pcode (isName s) (plook (kl s) P.now) P.n, P)
def PD.ren (P : PD) (s t : ByteArray) : Int × PD :=
  if pcode (isName t && isName s) (plook (kl s) P.now) P.n = 0 then (0, { P with log := P.log ++ [.ren s t], n := P.n + 1 }) else (pcode (isName t && isName s) (plook (kl s) P.now) P.n, P)
def PD.syncDir (P : PD) : Int × PD := if 65536 ≤ P.n then (23, P) else (0, { P with old := P.now, log := [], n := P.n + 1 })

/-- A disk in memory. -/
def DR (w : World) (B d : Nat) (P : PD) (cutAt : Int) (cuts gone : Bool) : Prop := ∃ S ρ, Rep w B d S ∧ S.ok ∧ Link S P ρ ∧ S.cutAt = cutAt ∧ S.cuts = cuts ∧ S.gone = gone

section
variable {w w' : World} {B d : Nat} {P : PD} {cutAt : Int} {cuts gone : Bool}
theorem DR.below (h : DR w B d P cutAt cuts gone) (hb : Below w.heap.size w w') : DR w' B d P cutAt cuts gone := by
  obtain ⟨S, ρ, h1, h2⟩ := h
  exact ⟨S, ρ, h1.below hb, h2⟩

theorem Link.lead {S : AD} {ρ : Nat → Nat} (h : Link S P ρ) (ok : S.ok) {s : ByteArray} {p : Option Addr} (hp : Leads S.now s p) : (plook (kl s) P.now = none ↔ p = none) := by
  unfold Leads at hp
  rw [← dn_at ok.isn, h.now ok] at hp
  cases e : plook (kl s) P.now with
  | none =>
    have h1 : (DataW.held (Value.pointer none) : DataW Value) = .held (.pointer p) := (mp_at_none (ρ := ρ) e _).symm.trans hp
    injection h1 with h1
    injection h1 with h1
    simp [← h1]
  | some i =>
    have h1 : pt (ρ i) = DataW.held (.pointer p) := (mp_at (ρ := ρ) e _).symm.trans hp
    unfold pt at h1
    injection h1 with h1
    injection h1 with h1
    simp [← h1]
theorem code_eq {S : AD} {ρ : Nat → Nat} (h : Link S P ρ) (ok : S.ok) {s : ByteArray} {p : Option Addr} (hp : Leads S.now s p) (n : Bool) : code n p S.ops = pcode n (plook (kl s) P.now) P.n := by
  have h1 := h.lead ok hp
  unfold code pcode
  rw [h.ops]
  cases n with
  | false => rfl
  | true =>
    cases e : plook (kl s) P.now with
    | none =>
      rw [h1.1 e]
      rfl
    | some i =>
      cases p with
      | none => rw [h1.2 rfl] at e; cases e
      | some a => rfl

theorem dr_delete (h : DR w B d P cutAt cuts gone) (hon : On P.n cutAt cuts gone) (hB : B ≤ w.heap.size) (s : ByteArray) (hs : s.size ≤ maxLen) :
    Calls Try.prog 17 #[.pointer (some ⟨d, 0, none⟩), .string s] w fun e w' => e = .returned (.int .i64 (P.del s).1) ∧ DR w' B d (P.del s).2 cutAt cuts gone ∧ Fr (FD B d) w w' := by
  obtain ⟨S, ρ, h1, ok, hl, rfl, rfl, rfl⟩ := h
  refine (rep_delete h1 ok (by rw [hl.ops]; exact hon) hB s hs).mono ?_
  rintro e w' ⟨x, S', rfl, hr, hok, hF, hne, heq, p, hp, hx⟩
  rw [code_eq hl ok hp] at hx
  unfold PD.del
  by_cases h0 : x = 0
  · obtain ⟨rfl, _⟩ := heq h0
    rw [if_pos (by rw [← hx]; exact h0)]
    subst h0
    exact ⟨rfl, ⟨_, ρ, hr, hok, hl.del ok s, rfl, rfl, rfl⟩, hF⟩
  · obtain rfl := hne h0
    rw [if_neg (by rw [← hx]; exact h0), ← hx]
    exact ⟨rfl, ⟨_, ρ, hr, hok, hl, rfl, rfl, rfl⟩, hF⟩
theorem dr_rename (h : DR w B d P cutAt cuts gone) (hon : On P.n cutAt cuts gone) (hB : B ≤ w.heap.size) (s t : ByteArray) (hs : s.size ≤ maxLen) (ht : t.size ≤ maxLen) :
    Calls Try.prog 32 #[.pointer (some ⟨d, 0, none⟩), .string s, .string t] w fun e w' => e = .returned (.int .i64 (P.ren s t).1) ∧ DR w' B d (P.ren s t).2 cutAt cuts gone ∧ Fr (FD B d) w w' := by
  obtain ⟨S, ρ, h1, ok, hl, rfl, rfl, rfl⟩ := h
  refine (rep_rename h1 ok (by rw [hl.ops]; exact hon) hB s t hs ht).mono ?_
  rintro e w' ⟨x, S', rfl, hr, hok, hF, hne, heq, p, hp, hx⟩
  rw [code_eq hl ok hp] at hx
  unfold PD.ren
  by_cases h0 : x = 0
  · obtain ⟨rfl, _⟩ := heq h0
    rw [if_pos (by rw [← hx]; exact h0)]
    cases e : plook (kl s) P.now with
    | none =>
      rw [e, h0] at hx
      unfold pcode at hx
      split at hx
      · cases hx
      · cases hx
    | some i =>
      subst h0
      exact ⟨rfl, ⟨_, ρ, hr, hok, hl.ren ok s t e, rfl, rfl, rfl⟩, hF⟩
  · obtain rfl := hne h0
    rw [if_neg (by rw [← hx]; exact h0), ← hx]
    exact ⟨rfl, ⟨_, ρ, hr, hok, hl, rfl, rfl, rfl⟩, hF⟩
theorem dr_syncDir (h : DR w B d P cutAt cuts gone) (hon : On P.n cutAt cuts gone) (hB : B ≤ w.heap.size) :
    Calls Try.prog 20 #[.pointer (some ⟨d, 0, none⟩)] w fun e w' => e = .returned (.int .i64 P.syncDir.1) ∧ DR w' B d P.syncDir.2 cutAt cuts gone ∧ Fr (FD B d) w w' := by
  obtain ⟨S, ρ, h1, ok, hl, rfl, rfl, rfl⟩ := h
  refine (rep_syncDir h1 ok (by rw [hl.ops]; exact hon) hB).mono ?_
  rintro e w' ⟨x, S', rfl, hr, hok, hF, hx, hS⟩
  unfold PD.syncDir
  rw [hl.ops] at hx hS
  by_cases h0 : 65536 ≤ P.n
  · rw [if_pos h0] at hx hS
    rw [if_pos h0, hx]
    subst hS
    exact ⟨rfl, ⟨_, ρ, hr, hok, hl, rfl, rfl, rfl⟩, hF⟩
  · rw [if_neg h0] at hx hS
    rw [if_neg h0, hx]
    subst hS
    exact ⟨rfl, ⟨_, ρ, hr, hok, hl.dirSynced ok, rfl, rfl, rfl⟩, hF⟩
theorem at_eq {i : Nat} {x : List Int × Nat} (h : P.fil[i]? = some x) : P.at i = x := by simp [PD.at, List.getD, h]
theorem dr_sync (h : DR w B d P cutAt cuts gone) (hon : On P.n cutAt cuts gone) (hB : B ≤ w.heap.size) (s : ByteArray) (hs : s.size ≤ maxLen) :
    Calls Try.prog 19 #[.pointer (some ⟨d, 0, none⟩), .string s] w fun e w' => e = .returned (.int .i64 (P.sync s).1) ∧ DR w' B d (P.sync s).2 cutAt cuts gone ∧ Fr (FD B d) w w' := by
  obtain ⟨S, ρ, h1, ok, hl, rfl, rfl, rfl⟩ := h
  refine (rep_sync h1 ok (by rw [hl.ops]; exact hon) hB s hs).mono ?_
  rintro e w' ⟨x, S', rfl, hr, hok, hF, hne, heq, p, hp, hx⟩
  rw [code_eq hl ok hp] at hx
  unfold PD.sync
  by_cases h0 : x = 0
  · obtain ⟨f, y, hf, hfy, rfl, _⟩ := heq h0
    obtain ⟨i, hi, rfl⟩ := hl.of_pt ok hf
    obtain ⟨_, z, hz, hz2⟩ := hl.look ok s hi
    rw [hfy] at hz2
    cases hz2
    rw [if_pos (by rw [← hx]; exact h0), hi]
    subst h0
    refine ⟨rfl, ⟨_, ρ, hr, hok, ?_, rfl, rfl, rfl⟩, hF⟩
    show Link (S.synced (ρ i) y) { P with fil := P.fil.set i ((P.at i).1, (P.at i).1.length), n := P.n + 1 } ρ
    rw [at_eq hz]
    exact hl.synced hz
  · obtain rfl := hne h0
    rw [if_neg (by rw [← hx]; exact h0), ← hx]
    exact ⟨rfl, ⟨_, ρ, hr, hok, hl, rfl, rfl, rfl⟩, hF⟩
theorem dr_append (h : DR w B d P cutAt cuts gone) (hon : On P.n cutAt cuts gone) (hB : B ≤ w.heap.size) (s : ByteArray) (hs : s.size ≤ maxLen) (ao : Option Addr) (len cap : Nat) (xs : List Int) (hx : Sl w ao len cap xs) (hxa : 0 < len → ∀ b off, ao = some ⟨b, off, none⟩ → b < B ∧ b ≠ d) :
    Calls Try.prog 18 #[.pointer (some ⟨d, 0, none⟩), .string s, .slice ao len cap] w fun e w' => e = .returned (.int .i64 (P.app s xs).1) ∧ DR w' B d (P.app s xs).2 cutAt cuts gone ∧ Fr (FD B d) w w' := by
  obtain ⟨S, ρ, h1, ok, hl, rfl, rfl, rfl⟩ := h
  have hxl := hx.1
  refine (rep_append h1 ok (by rw [hl.ops]; exact hon) hB s hs ao len cap xs hx hxa).mono ?_
  rintro e w' ⟨x, S', rfl, hr, hok, hF, hcase⟩
  unfold PD.app
  have hhas := hl.has ok s
  have hsz := hl.size ok
  have hop := hl.ops
  rcases hcase with ⟨rfl, hn, rfl⟩ | ⟨rfl, hn, rfl, hwhy⟩ | ⟨rfl, hn, ho, hh, hle, hsm, f, hf, _, rfl⟩ | ⟨rfl, hn, ho, f, y, hf, hfy, hle, rfl⟩
  · rw [if_pos hn]
    exact ⟨rfl, ⟨_, ρ, hr, hok, hl, rfl, rfl, rfl⟩, hF⟩
  · rw [if_neg (by rw [hn]; decide)]
    rcases hwhy with ⟨hh, hw⟩ | ⟨f, y, hf, hfy, hw⟩
    · have hnone : plook (kl s) P.now = none := by
        rw [hhas] at hh
        exact Option.not_isSome_iff_eq_none.1 (by rw [hh]; decide)
      rw [hnone]
      rw [hop, hsz] at hw
      show _ = Ending.returned (.int .i64 (if 65536 ≤ P.n ∨ 262144 < xs.length ∨ 64 ≤ P.now.length then (23, P) else _).1) ∧ DR _ _ _ (if 65536 ≤ P.n ∨ 262144 < xs.length ∨ 64 ≤ P.now.length then (23, P) else _).2 _ _ _ ∧ _
      rw [if_pos (by rw [hxl]; exact hw)]
      exact ⟨rfl, ⟨_, ρ, hr, hok, hl, rfl, rfl, rfl⟩, hF⟩
    · obtain ⟨i, hi, rfl⟩ := hl.of_pt ok hf
      obtain ⟨_, z, hz, hz2⟩ := hl.look ok s hi
      rw [hfy] at hz2
      cases hz2
      rw [hi]
      show _ = Ending.returned (.int .i64 (if 65536 ≤ P.n ∨ 262144 < xs.length + (P.at i).1.length then (23, P) else _).1) ∧ DR _ _ _ (if 65536 ≤ P.n ∨ 262144 < xs.length + (P.at i).1.length then (23, P) else _).2 _ _ _ ∧ _
      rw [if_pos (by rw [hxl, at_eq hz, ← hop]; exact hw)]
      exact ⟨rfl, ⟨_, ρ, hr, hok, hl, rfl, rfl, rfl⟩, hF⟩
  · rw [if_neg (by rw [hn]; decide)]
    have hnone : plook (kl s) P.now = none := by
      rw [hhas] at hh
      exact Option.not_isSome_iff_eq_none.1 (by rw [hh]; decide)
    rw [hnone]
    show _ = Ending.returned (.int .i64 (if 65536 ≤ P.n ∨ 262144 < xs.length ∨ 64 ≤ P.now.length then (23, P) else _).1) ∧ DR _ _ _ (if 65536 ≤ P.n ∨ 262144 < xs.length ∨ 64 ≤ P.now.length then (23, P) else _).2 _ _ _ ∧ _
    rw [if_neg (by rw [hxl]; omega)]
    obtain ⟨ρ', hl'⟩ := hl.made ok s f xs hf
    exact ⟨rfl, ⟨_, ρ', hr, hok, hl', rfl, rfl, rfl⟩, hF⟩
  · rw [if_neg (by rw [hn]; decide)]
    obtain ⟨i, hi, rfl⟩ := hl.of_pt ok hf
    obtain ⟨_, z, hz, hz2⟩ := hl.look ok s hi
    rw [hfy] at hz2
    cases hz2
    rw [hi]
    show _ = Ending.returned (.int .i64 (if 65536 ≤ P.n ∨ 262144 < xs.length + (P.at i).1.length then (23, P) else _).1) ∧ DR _ _ _ (if 65536 ≤ P.n ∨ 262144 < xs.length + (P.at i).1.length then (23, P) else _).2 _ _ _ ∧ _
    rw [if_neg (by rw [hxl, at_eq hz]; omega)]
    refine ⟨rfl, ⟨_, ρ, hr, hok, ?_, rfl, rfl, rfl⟩, hF⟩
    rw [at_eq hz]
    exact hl.grown hz xs

/-- The disk's power is another one: all else is as it was. -/
theorem mem_power {S : AD} {nb sb : Option Nat} {sv : Value} {cs : List Value} {vf : Nat → Value} (M : Mem w B d S nb sb sv cs vf) {c : Int} {k g : Bool} (hD : Dk w' d (.map nb) (.map sb) sv S.ops c k g) (hF : Fr (fun j => j = d) w w') : Mem w' B d { S with cutAt := c, cuts := k, gone := g } nb sb sv cs vf := by
  have ec : ∀ (j : Nat) (cur : Array Value) (t : TypeId), t ≠ 61 → w.heap[j]? = some (Obj.cells cur t (0, 0)) → w'.heap[j]? = w.heap[j]? := fun j cur t ht hh => hF.block j (Array.getElem?_eq_some_iff.1 hh).1 (dk_cells M.dk ht hh)
  refine ⟨hD, Dir.same M.now fun j e => hF.block j (dir_lt M.now j e) (fun e2 => dir_cells M.now M.dk (by rw [← e2]; exact e)), Dir.same M.syn fun j e => hF.block j (dir_lt M.syn j e) (fun e2 => dir_cells M.syn M.dk (by rw [← e2]; exact e)), M.nlo, M.slo, M.ne, row_same M.row fun j e => ?_, fun i ch hi => ?_, M.fils.same fun j cur t ht => ec j cur t (by rcases ht with rfl | rfl <;> decide)⟩
  · obtain ⟨cur, hh, _⟩ := row_block M.row e
    exact ec _ _ _ (by decide) hh
  · obtain ⟨c, h1, h2⟩ := M.chs i ch hi
    exact ⟨c, h1, h2.same2 fun j cur t ht => ec j cur t (by rcases ht with rfl | rfl <;> decide)⟩

theorem dr_power {f : FuncId} {args : Array Value} {v : Value} {c : Int} {k g : Bool} (h : DR w B d P cutAt cuts gone)
    (hc : ∀ now syn since, Dk w d now syn since P.n cutAt cuts gone → Calls Try.prog f args w fun e w' => e = .returned v ∧ Dk w' d now syn since P.n c k g ∧ Fr (fun j => j = d) w w') :
    Calls Try.prog f args w fun e w' => e = .returned v ∧ DR w' B d P c k g ∧ Fr (FD B d) w w' := by
  obtain ⟨S, ρ, ⟨nb, sb, sv, cs, vf, M⟩, ok, hl, rfl, rfl, rfl⟩ := h
  have hM := M.dk
  rw [hl.ops] at hM
  refine (hc _ _ _ hM).mono ?_
  rintro e w' ⟨rfl, hD, hF⟩
  rw [← hl.ops] at hD
  exact ⟨rfl, ⟨_, ρ, ⟨nb, sb, sv, cs, vf, mem_power M hD hF⟩, ⟨ok.lo, ok.hi, ok.few, ok.isn, ok.iss, ok.szn, ok.szs, ok.road, ok.fine⟩, ⟨hl.ops, hl.len, hl.road, hl.fil, hl.inj, hl.ids⟩, rfl, rfl, rfl⟩, hF.mono (fun j _ e => .inl e)⟩
theorem DR.dk (h : DR w B d P cutAt cuts gone) : ∃ now syn since, Dk w d now syn since P.n cutAt cuts gone := by
  obtain ⟨S, ρ, ⟨nb, sb, sv, cs, vf, M⟩, ok, hl, rfl, rfl, rfl⟩ := h
  have hM := M.dk
  rw [hl.ops] at hM
  exact ⟨_, _, _, hM⟩

/-- A disk that nobody wrote. -/
theorem dr_new (n : Nat) (w : World) (hd : Dk w n (.map none) (.map none) (.slice none 0 0) 0 0 false false) (B : Nat) : DR w B n PD.new 0 false false := by
  refine ⟨⟨.nil, .nil, [], fun _ => none, 0, 0, false, false⟩, id, ⟨none, none, .slice none 0 0, [], fun _ => .slice none 0 0, hd, .inl ⟨rfl, rfl⟩, .inl ⟨rfl, rfl⟩, (fun j e => by cases e), (fun j e => by cases e), (fun j e => by cases e), ⟨rfl, .inl ⟨rfl, rfl⟩⟩, (fun i ch hi => by cases hi), ⟨(fun f x hf => by cases hf), (fun f g x y j hf => by cases hf)⟩⟩, ?_, ?_, rfl, rfl, rfl⟩
  · refine ⟨by decide, by decide, by decide, .inl rfl, .inl rfl, by decide, by decide, rfl, fun k hk => ?_⟩
    have : k = 0 := by simpa using hk
    subst this
    exact fine_empty _
  · refine ⟨rfl, rfl, fun k hk => ?_, (fun i x hx => by cases hx), (fun i j hi => by cases hi), fun k hk p hp => ?_⟩
    · have : k = 0 := by simpa [PD.new] using hk
      subst this
      rfl
    · have : k = 0 := by simpa [PD.new] using hk
      subst this
      cases hp
end
end Go.Proofs.Ytolaagbdnchhiaa
