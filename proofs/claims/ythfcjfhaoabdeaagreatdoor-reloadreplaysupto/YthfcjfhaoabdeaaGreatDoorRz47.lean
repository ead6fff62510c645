/-
  The law's own 'shown' of the disk returns true.
-/
import Derived.Test.YthfcjfhaoabdeaaGreatDoorRz45
import Derived.Lib.SlBytesConst
import Derived.Test.YthfcjfhaoabdeaaGreatDoorRz38
import Derived.SliceStrings
import Derived.OpenShut
import Derived.Test.YthfcjfhaoabdeaaGreatDoorRz41
set_option linter.unusedVariables false
set_option linter.unusedSimpArgs false
namespace Go.Proofs.YthfcjfhaoabdeaaGreatDoor
open Go.RowKit Go.Maps

set_option maxHeartbeats 400000 in
theorem new_any (w : World) : Calls Tryz.prog 10 #[] w fun e w' => e = .returned (.pointer (some ⟨w.heap.size, 0, none⟩)) ∧ w' = w.alloc (.cells #[.map none, .map none, .slice none 0 0, .int .i64 0, .bool false, .int .i64 0, .bool false] 77) := by
  go_enter Tryz.func10, Tryz.ntmps10
  go_wp2
  go_ret
  exact ⟨rfl, rfl⟩

def sa : ByteArray := ⟨#[97]⟩
/-- The directory of one file. -/
def D1 (f : Nat) : DataW Value := (DataW.map []).put (kl sa) (pt f)
/-- What is known of the disk behind its first operation, in every world that has kept it. -/
structure Kept (u : World) (d B b f fb nb l cap : Nat) (ao : Option Addr) (sv : Value) : Prop where
  dk : Dk u d (.map (some b)) (.map none) sv 1 0 false false
  own : u.ownsMap Tryz.prog 9 RV b 1 (D1 f)
  fl : Fl u f (.slice ao l cap) 0
  sl : Sl u ao l cap [120, 121]
  row : u.ownsRow B 370 1 sv 1 [mkCl fb nb]
  nam : Box u nb (.string sa) 9
  poi : Box u fb (.pointer (some ⟨f, 0, none⟩)) 141

end Go.Proofs.YthfcjfhaoabdeaaGreatDoor

/-
  The walk of the law DiskNames: of every text, the program's look and the document's are the same.
-/
set_option linter.unusedVariables false
set_option linter.unusedSimpArgs false
namespace Go.Proofs.YthfcjfhaoabdeaaGreatDoor
open Go.RowKit Go.ChangeShapes Go.WideShapes Go.ChangeAt

/-- A slice of texts that is read. -/
def St (w : World) (ao : Option Addr) (len cap : Nat) (ss : List ByteArray) : Prop :=
  ss.length = len ∧ len ≤ cap ∧ cap ≤ maxLen ∧ (∀ s ∈ ss, s.size ≤ maxLen) ∧ (0 < len → ∃ b off, ao = some ⟨b, off, none⟩ ∧ b < w.heap.size ∧ ∀ i, i < len → w.cell? ⟨b, off + i, none⟩ = some (.string (ss.getD i ByteArray.empty)))

end Go.Proofs.YthfcjfhaoabdeaaGreatDoor

/-
  The disk without memory: files by number, directories as rising rows of names, changes; how it is held against the disk told apart from memory.
-/
set_option linter.unusedVariables false
set_option linter.unusedSimpArgs false
namespace Go.Proofs.YthfcjfhaoabdeaaGreatDoor
open Go.RowKit Go.Maps

/-! ### Directories as rows -/
abbrev PDir := List (Lit × Nat)
def pins (k : Lit) (i : Nat) : PDir → PDir
  | [] => [(k, i)]
  | y :: r => if k.before y.1 then (k, i) :: y :: r else y :: pins k i r
def pdel (k : Lit) (D : PDir) : PDir := D.filter fun p => !p.1.sameKey k
def pput (k : Lit) (i : Nat) (D : PDir) : PDir := pins k i (pdel k D)
def plook (k : Lit) (D : PDir) : Option Nat := (D.find? fun p => p.1.sameKey k).map (·.2)
/-- A directory's row with the files where they lie. -/
def mp (ρ : Nat → Nat) (D : PDir) : DataW Value := .map (D.map fun p => (p.1, pt (ρ p.2)))

theorem mp_ins (ρ : Nat → Nat) (k : Lit) (i : Nat) : ∀ D : PDir, DataW.insert (k, pt (ρ i)) (D.map fun p => (p.1, pt (ρ p.2))) = (pins k i D).map fun p => (p.1, pt (ρ p.2))
  | [] => rfl
  | y :: r => by
    show DataW.insert (k, pt (ρ i)) ((y.1, pt (ρ y.2)) :: r.map fun p => (p.1, pt (ρ p.2))) = (if k.before y.1 then (k, i) :: y :: r else y :: pins k i r).map fun p => (p.1, pt (ρ p.2))
    have ih := mp_ins ρ k i r
    unfold DataW.insert
    by_cases h : k.before y.1 = true
    · rw [if_pos h, if_pos h]; rfl
    · rw [if_neg h, if_neg h, ih]; rfl
theorem mp_filter (ρ : Nat → Nat) (k : Lit) (D : PDir) : (D.map fun p => (p.1, pt (ρ p.2))).filter (fun p => !p.1.sameKey k) = (pdel k D).map fun p => (p.1, pt (ρ p.2)) := by
  unfold pdel
  rw [List.filter_map]
  rfl
theorem mp_put (ρ : Nat → Nat) (k : Lit) (i : Nat) (D : PDir) : (mp ρ D).put k (pt (ρ i)) = mp ρ (pput k i D) := by
  show DataW.map _ = DataW.map _
  rw [mp_filter, mp_ins]
  rfl
theorem mp_find (ρ : Nat → Nat) (k : Lit) (D : PDir) : (D.map fun p => (p.1, pt (ρ p.2))).find? (fun p => p.1.sameKey k) = (D.find? fun p => p.1.sameKey k).map fun p => (p.1, pt (ρ p.2)) := by
  rw [List.find?_map]
  rfl
theorem mp_at {ρ : Nat → Nat} {k : Lit} {D : PDir} {i : Nat} (h : plook k D = some i) (z : DataW Value) : (mp ρ D).atKey k z = pt (ρ i) := by
  unfold plook at h
  simp only [mp, DataW.atKey]
  rw [mp_find]
  cases e : D.find? (fun p => p.1.sameKey k) with
  | none => rw [e] at h; cases h
  | some p => rw [e] at h; cases h; rfl
theorem mp_at_none {ρ : Nat → Nat} {k : Lit} {D : PDir} (h : plook k D = none) (z : DataW Value) : (mp ρ D).atKey k z = z := by
  unfold plook at h
  simp only [mp, DataW.atKey]
  rw [mp_find]
  cases e : D.find? (fun p => p.1.sameKey k) with
  | none => rfl
  | some p => rw [e] at h; cases h
theorem mp_has (ρ : Nat → Nat) (k : Lit) (D : PDir) : Maps.has (mp ρ D) k = (plook k D).isSome := by
  show (D.map fun p => (p.1, pt (ρ p.2))).any (fun p => p.1.sameKey k) = _
  unfold plook
  induction D with
  | nil => rfl
  | cons y r ih =>
    simp only [List.map_cons, List.any_cons, List.find?_cons]
    cases e : y.1.sameKey k with
    | true => rfl
    | false => simpa using ih
theorem mp_size (ρ : Nat → Nat) (D : PDir) : Maps.size (mp ρ D) = D.length := by
  show (D.map fun p => (p.1, pt (ρ p.2))).length = _
  simp
theorem mp_congr {ρ ρ' : Nat → Nat} {D : PDir} (h : ∀ p ∈ D, ρ p.2 = ρ' p.2) : mp ρ D = mp ρ' D := by
  unfold mp
  congr 1
  exact List.map_congr_left fun p hp => by rw [h p hp]
theorem mem_ins {k : Lit} {i : Nat} {p : Lit × Nat} : ∀ {D : PDir}, p ∈ pins k i D → p = (k, i) ∨ p ∈ D
  | [], h => by simpa [pins] using h
  | y :: r, h => by
    unfold pins at h
    split at h
    · rcases List.mem_cons.1 h with h | h
      · exact .inl h
      · exact .inr h
    · rcases List.mem_cons.1 h with h | h
      · exact .inr (h ▸ List.mem_cons_self ..)
      · rcases mem_ins h with h | h
        · exact .inl h
        · exact .inr (List.mem_cons_of_mem _ h)
theorem mem_del {k : Lit} {p : Lit × Nat} {D : PDir} (h : p ∈ pdel k D) : p ∈ D := (List.mem_filter.1 h).1
theorem mem_put {k : Lit} {i : Nat} {p : Lit × Nat} {D : PDir} (h : p ∈ pput k i D) : p = (k, i) ∨ p ∈ D := by
  rcases mem_ins h with h | h
  · exact .inl h
  · exact .inr (mem_del h)
theorem look_mem {k : Lit} {D : PDir} {i : Nat} (h : plook k D = some i) : ∃ p ∈ D, p.2 = i ∧ p.1.sameKey k = true := by
  unfold plook at h
  cases e : D.find? (fun p => p.1.sameKey k) with
  | none => rw [e] at h; cases h
  | some p =>
    rw [e] at h
    cases h
    exact ⟨p, List.mem_of_find?_eq_some e, rfl, by simpa using List.find?_some e⟩

/-! ### Changes, and the disk -/
inductive PC where
  | mk (s : ByteArray) (i : Nat)
  | del (s : ByteArray)
  | ren (s t : ByteArray)
def PC.run : PC → PDir → PDir
  | .mk s i, D => pput (kl s) i D
  | .del s, D => pdel (kl s) D
  | .ren s t, D => match plook (kl s) D with
    | some i => pput (kl t) i (pdel (kl s) D)
    | none => D
def pruns (l : List PC) (D : PDir) : PDir := l.foldl (fun D c => c.run D) D
theorem pruns_snoc (l : List PC) (c : PC) (D : PDir) : pruns (l ++ [c]) D = c.run (pruns l D) := by simp [pruns]

structure PD where
  old : PDir
  log : List PC
  fil : List (List Int × Nat)
  n : Int
def PD.now (P : PD) : PDir := pruns P.log P.old
def PD.new : PD := ⟨[], [], [], 0⟩

structure Link (S : AD) (P : PD) (ρ : Nat → Nat) : Prop where
  ops : S.ops = P.n
  len : S.chs.length = P.log.length
  road : ∀ k, k ≤ P.log.length → runs (S.chs.take k) (dn S.syn) = mp ρ (pruns (P.log.take k) P.old)
  fil : ∀ i x, P.fil[i]? = some x → S.fil (ρ i) = some x
  inj : ∀ i j, i < P.fil.length → j < P.fil.length → ρ i = ρ j → i = j
  ids : ∀ k, k ≤ P.log.length → ∀ p ∈ pruns (P.log.take k) P.old, p.2 < P.fil.length

section
variable {S : AD} {P : PD} {ρ : Nat → Nat}
theorem Link.now (h : Link S P ρ) (ok : S.ok) : dn S.now = mp ρ P.now := by
  have := h.road P.log.length (Nat.le_refl _)
  rw [List.take_length, ← h.len, List.take_length, ok.road] at this
  exact this
theorem Link.idn (h : Link S P ρ) : ∀ p ∈ P.now, p.2 < P.fil.length := by
  have := h.ids P.log.length (Nat.le_refl _)
  rwa [List.take_length] at this
/-- What a name leads to. -/
theorem Link.look (h : Link S P ρ) (ok : S.ok) (s : ByteArray) {i : Nat} (hl : plook (kl s) P.now = some i) : (∀ z, (dn S.now).atKey (kl s) z = pt (ρ i)) ∧ ∃ x, P.fil[i]? = some x ∧ S.fil (ρ i) = some x := by
  rw [h.now ok]
  refine ⟨fun z => mp_at hl z, ?_⟩
  obtain ⟨p, hp, rfl, _⟩ := look_mem hl
  have hi := h.idn p hp
  exact ⟨P.fil[p.2], List.getElem?_eq_getElem hi, h.fil _ _ (List.getElem?_eq_getElem hi)⟩
theorem Link.has (h : Link S P ρ) (ok : S.ok) (s : ByteArray) : Maps.has (dn S.now) (kl s) = (plook (kl s) P.now).isSome := by rw [h.now ok, mp_has]
theorem Link.size (h : Link S P ρ) (ok : S.ok) : Maps.size S.now = P.now.length := by rw [← dn_sz ok.isn, h.now ok, mp_size]

/-- Which file a pointer is. -/
theorem Link.of_pt (h : Link S P ρ) (ok : S.ok) {s : ByteArray} {f : Nat} (hf : ∀ z, (dn S.now).atKey (kl s) z = pt f) : ∃ i, plook (kl s) P.now = some i ∧ f = ρ i := by
  cases e : plook (kl s) P.now with
  | none =>
    have h1 := hf no
    rw [h.now ok, mp_at_none e] at h1
    simp [no, pt] at h1
  | some i =>
    have h1 := hf no
    rw [h.now ok, mp_at e] at h1
    simp [pt] at h1
    exact ⟨i, rfl, h1.symm⟩

/-- One more change. -/
theorem Link.change (h : Link S P ρ) (ok : S.ok) {ρ' : Nat → Nat} (c : Ch) (pc : PC) {fil' : Nat → Option (List Int × Nat)} {pf : List (List Int × Nat)} (hρ : ∀ i, i < P.fil.length → ρ' i = ρ i) (hl : P.fil.length ≤ pf.length)
    (hrun : c.run (mp ρ P.now) = mp ρ' (pc.run P.now)) (hid : ∀ p ∈ pc.run P.now, p.2 < pf.length) (hfil : ∀ i x, pf[i]? = some x → fil' (ρ' i) = some x) (hinj : ∀ i j, i < pf.length → j < pf.length → ρ' i = ρ' j → i = j) :
    Link { S with now := c.run (dn S.now), chs := S.chs ++ [c], fil := fil', ops := S.ops + 1 } { P with log := P.log ++ [pc], fil := pf, n := P.n + 1 } ρ' := by
  have hlen := h.len
  refine ⟨by show S.ops + 1 = P.n + 1; rw [h.ops], by simp [hlen], fun k hk => ?_, hfil, hinj, fun k hk => ?_⟩
  · show runs ((S.chs ++ [c]).take k) (dn S.syn) = mp ρ' (pruns ((P.log ++ [pc]).take k) P.old)
    have hk2 : k ≤ P.log.length + 1 := by simpa using hk
    by_cases e : k ≤ P.log.length
    · rw [List.take_append_of_le_length (by omega), List.take_append_of_le_length e, h.road k e]
      exact mp_congr fun p hp => (hρ p.2 (h.ids k e p hp)).symm
    · rw [List.take_of_length_le (by simp; omega), List.take_of_length_le (by simp; omega), runs_snoc, pruns_snoc, ok.road, h.now ok]
      exact hrun
  · show ∀ p ∈ pruns ((P.log ++ [pc]).take k) P.old, p.2 < pf.length
    have hk2 : k ≤ P.log.length + 1 := by simpa using hk
    by_cases e : k ≤ P.log.length
    · rw [List.take_append_of_le_length e]
      exact fun p hp => Nat.lt_of_lt_of_le (h.ids k e p hp) hl
    · rw [List.take_of_length_le (by simp; omega), pruns_snoc]
      exact hid

/-- Other files. -/
theorem Link.files (h : Link S P ρ) {fil' : Nat → Option (List Int × Nat)} {pf : List (List Int × Nat)} (n : Int) (hl : P.fil.length = pf.length) (hfil : ∀ i x, pf[i]? = some x → fil' (ρ i) = some x) : Link { S with fil := fil', ops := n } { P with fil := pf, n := n } ρ :=
  ⟨rfl, h.len, h.road, hfil, fun i j hi hj => h.inj i j (by rw [hl]; exact hi) (by rw [hl]; exact hj), fun k hk p hp => by rw [← hl]; exact h.ids k hk p hp⟩

theorem Link.made (h : Link S P ρ) (ok : S.ok) (s : ByteArray) (f : Nat) (xs : List Int) (hf : S.fil f = none) : ∃ ρ', Link (S.made s f xs) { P with log := P.log ++ [.mk s P.fil.length], fil := P.fil ++ [(xs, 0)], n := P.n + 1 } ρ' := by
  obtain ⟨ρ', hr, hn⟩ : ∃ ρ' : Nat → Nat, (∀ i, i < P.fil.length → ρ' i = ρ i) ∧ ρ' P.fil.length = f := ⟨fun i => if i = P.fil.length then f else ρ i, fun i hi => if_neg (by omega), if_pos rfl⟩
  have hnf : ∀ i, i < P.fil.length → ρ i ≠ f := fun i hi e => by
    have := h.fil i _ (List.getElem?_eq_getElem hi)
    rw [e, hf] at this
    cases this
  refine ⟨ρ', h.change ok (.mk s f) (.mk s P.fil.length) hr (by simp) ?_ ?_ ?_ ?_⟩
  · show (mp ρ P.now).put (kl s) (pt f) = mp ρ' (pput (kl s) P.fil.length P.now)
    rw [← mp_put, hn, mp_congr fun p hp => (hr p.2 (h.idn p hp)).symm]
  · intro p hp
    rcases mem_put hp with rfl | hp
    · simp
    · have := h.idn p hp
      simp; omega
  · intro i x hx
    by_cases hi : i < P.fil.length
    · rw [List.getElem?_append_left hi] at hx
      rw [hr i hi, upd_other _ _ (hnf i hi)]
      exact h.fil i x hx
    · have hi2 : i = P.fil.length := by
        have := (List.getElem?_eq_some_iff.1 hx).1
        simp at this
        omega
      subst hi2
      simp at hx
      subst hx
      rw [hn, upd_same]
  · intro i j hi hj e
    simp only [List.length_append, List.length_cons, List.length_nil] at hi hj
    by_cases h1 : i = P.fil.length <;> by_cases h2 : j = P.fil.length
    · omega
    · rw [h1, hn, hr j (by omega)] at e
      exact absurd e.symm (hnf j (by omega))
    · rw [h2, hn, hr i (by omega)] at e
      exact absurd e (hnf i (by omega))
    · rw [hr i (by omega), hr j (by omega)] at e
      exact h.inj i j (by omega) (by omega) e

/-- A file is another one. -/
theorem Link.upd (h : Link S P ρ) {i : Nat} (hi : i < P.fil.length) (x : List Int × Nat) : ∀ j y, (P.fil.set i x)[j]? = some y → upd S.fil (ρ i) x (ρ j) = some y := by
  intro j y hy
  by_cases e : j = i
  · subst e
    rw [List.getElem?_set, if_pos rfl, if_pos hi] at hy
    rw [upd_same]
    exact hy
  · rw [List.getElem?_set, if_neg (Ne.symm e)] at hy
    have hj := (List.getElem?_eq_some_iff.1 hy).1
    rw [upd_other _ _ (fun e2 => e (h.inj j i hj hi e2))]
    exact h.fil j y hy

theorem Link.dirSynced (h : Link S P ρ) (ok : S.ok) : Link S.dirSynced { P with old := P.now, log := [], n := P.n + 1 } ρ := by
  refine ⟨by show S.ops + 1 = P.n + 1; rw [h.ops], rfl, fun k hk => ?_, h.fil, h.inj, fun k hk p hp => ?_⟩
  · show runs (([] : List Ch).take k) (dn (dn S.now)) = mp ρ (pruns (([] : List PC).take k) P.now)
    rw [List.take_nil, List.take_nil, dn_id (dn_map ok.isn), show runs [] (dn S.now) = dn S.now from rfl, h.now ok]
    rfl
  · have : p ∈ P.now := by simpa [pruns] using hp
    exact h.idn p this
theorem Link.synced (h : Link S P ρ) {i : Nat} {x : List Int × Nat} (hi : P.fil[i]? = some x) : Link (S.synced (ρ i) x) { P with fil := P.fil.set i (x.1, x.1.length), n := P.n + 1 } ρ := by
  have hi2 := (List.getElem?_eq_some_iff.1 hi).1
  have := h.files (S := S) (P := P) (fil' := Go.Proofs.YthfcjfhaoabdeaaGreatDoor.upd S.fil (ρ i) (x.1, x.1.length)) (pf := P.fil.set i (x.1, x.1.length)) (P.n + 1) (by simp) (h.upd hi2 _)
  rw [← h.ops] at this
  have e : S.synced (ρ i) x = { S with fil := Go.Proofs.YthfcjfhaoabdeaaGreatDoor.upd S.fil (ρ i) (x.1, x.1.length), ops := S.ops + 1 } := rfl
  rw [e, ← h.ops]
  exact this
theorem Link.grown (h : Link S P ρ) {i : Nat} {x : List Int × Nat} (hi : P.fil[i]? = some x) (xs : List Int) : Link (S.grown (ρ i) x xs) { P with fil := P.fil.set i (x.1 ++ xs, x.2), n := P.n + 1 } ρ := by
  have hi2 := (List.getElem?_eq_some_iff.1 hi).1
  have := h.files (S := S) (P := P) (fil' := Go.Proofs.YthfcjfhaoabdeaaGreatDoor.upd S.fil (ρ i) (x.1 ++ xs, x.2)) (pf := P.fil.set i (x.1 ++ xs, x.2)) (P.n + 1) (by simp) (h.upd hi2 _)
  rw [← h.ops] at this
  rw [← h.ops]
  exact this
end
end Go.Proofs.YthfcjfhaoabdeaaGreatDoor

/-
  A disk in memory is one without memory: what each operation answers, and leaves.
-/
set_option linter.unusedVariables false
set_option linter.unusedSimpArgs false
namespace Go.Proofs.YthfcjfhaoabdeaaGreatDoor
open Go.RowKit Go.Maps

/-- What is answered of a name that must be there. -/
def pcode (n : Bool) (q : Option Nat) (ops : Int) : Int := if n = false then 20 else if q = none then 21 else if 65536 ≤ ops then 23 else 0
def PD.at (P : PD) (i : Nat) : List Int × Nat := P.fil.getD i ([], 0)

def PD.app (P : PD) (s : ByteArray) (xs : List Int) : Int × PD :=
  if isName s = false then (20, P) else
  match plook (kl s) P.now with
  | none => if 65536 ≤ P.n ∨ 262144 < xs.length ∨ 64 ≤ P.now.length then (23, P) else (0, { P with log := P.log ++ [.mk s P.fil.length], fil := P.fil ++ [(xs, 0)], n := P.n + 1 })
  | some i => if 65536 ≤ P.n ∨ 262144 < xs.length + (P.at i).1.length then (23, P) else (0, { P with fil := P.fil.set i ((P.at i).1 ++ xs, (P.at i).2), n := P.n + 1 })
def PD.sync (P : PD) (s : ByteArray) : Int × PD :=
  if pcode (isName s) (plook (kl s) P.now) P.n = 0 then
    (0, match plook (kl s) P.now with | some i => { P with fil := P.fil.set i ((P.at i).1, (P.at i).1.length), n := P.n + 1 } | none => P)
  else (pcode (isName s) (plook (kl s) P.now) P.n, P)
def PD.syncDir (P : PD) : Int × PD := if 65536 ≤ P.n then (23, P) else (0, { P with old := P.now, log := [], n := P.n + 1 })

/-- A disk in memory. -/
def DR (w : World) (B d : Nat) (P : PD) (cutAt : Int) (cuts gone : Bool) : Prop := ∃ S ρ, Rep w B d S ∧ S.ok ∧ Link S P ρ ∧ S.cutAt = cutAt ∧ S.cuts = cuts ∧ S.gone = gone

section
variable {w w' : World} {B d : Nat} {P : PD} {cutAt : Int} {cuts gone : Bool}
theorem Link.lead {S : AD} {ρ : Nat → Nat} (h : Link S P ρ) (ok : S.ok) {s : ByteArray} {p : Option Addr} (hp : Leads S.now s p) : (plook (kl s) P.now = none ↔ p = none) := by
  unfold Leads at hp
  rw [← dn_at ok.isn, h.now ok] at hp
  cases e : plook (kl s) P.now with
  | none =>
    have h1 : (DataW.held (Value.pointer none) : DataW Value) = .held (.pointer p) := (mp_at_none (ρ := ρ) e _).symm.trans hp
    injection h1 with h1
    injection h1 with h1
    simp [← h1]
  | some i =>
    have h1 : pt (ρ i) = DataW.held (.pointer p) := (mp_at (ρ := ρ) e _).symm.trans hp
    unfold pt at h1
    injection h1 with h1
    injection h1 with h1
    simp [← h1]
theorem code_eq {S : AD} {ρ : Nat → Nat} (h : Link S P ρ) (ok : S.ok) {s : ByteArray} {p : Option Addr} (hp : Leads S.now s p) (n : Bool) : code n p S.ops = pcode n (plook (kl s) P.now) P.n := by
  have h1 := h.lead ok hp
  unfold code pcode
  rw [h.ops]
  cases n with
  | false => rfl
  | true =>
    cases e : plook (kl s) P.now with
    | none =>
      rw [h1.1 e]
      rfl
    | some i =>
      cases p with
      | none => rw [h1.2 rfl] at e; cases e
      | some a => rfl

theorem dr_syncDir (h : DR w B d P cutAt cuts gone) (hon : On P.n cutAt cuts gone) (hB : B ≤ w.heap.size) :
    Calls Tryz.prog 139 #[.pointer (some ⟨d, 0, none⟩)] w fun e w' => e = .returned (.int .i64 P.syncDir.1) ∧ DR w' B d P.syncDir.2 cutAt cuts gone ∧ Fr (FD B d) w w' := by
  obtain ⟨S, ρ, h1, ok, hl, rfl, rfl, rfl⟩ := h
  refine (rep_syncDir h1 ok (by rw [hl.ops]; exact hon) hB).mono ?_
  rintro e w' ⟨x, S', rfl, hr, hok, hF, hx, hS⟩
  unfold PD.syncDir
  rw [hl.ops] at hx hS
  by_cases h0 : 65536 ≤ P.n
  · rw [if_pos h0] at hx hS
    rw [if_pos h0, hx]
    subst hS
    exact ⟨rfl, ⟨_, ρ, hr, hok, hl, rfl, rfl, rfl⟩, hF⟩
  · rw [if_neg h0] at hx hS
    rw [if_neg h0, hx]
    subst hS
    exact ⟨rfl, ⟨_, ρ, hr, hok, hl.dirSynced ok, rfl, rfl, rfl⟩, hF⟩
theorem at_eq {i : Nat} {x : List Int × Nat} (h : P.fil[i]? = some x) : P.at i = x := by simp [PD.at, List.getD, h]
theorem dr_sync (h : DR w B d P cutAt cuts gone) (hon : On P.n cutAt cuts gone) (hB : B ≤ w.heap.size) (s : ByteArray) (hs : s.size ≤ maxLen) :
    Calls Tryz.prog 179 #[.pointer (some ⟨d, 0, none⟩), .string s] w fun e w' => e = .returned (.int .i64 (P.sync s).1) ∧ DR w' B d (P.sync s).2 cutAt cuts gone ∧ Fr (FD B d) w w' := by
  obtain ⟨S, ρ, h1, ok, hl, rfl, rfl, rfl⟩ := h
  refine (rep_sync h1 ok (by rw [hl.ops]; exact hon) hB s hs).mono ?_
  rintro e w' ⟨x, S', rfl, hr, hok, hF, hne, heq, p, hp, hx⟩
  rw [code_eq hl ok hp] at hx
  unfold PD.sync
  by_cases h0 : x = 0
  · obtain ⟨f, y, hf, hfy, rfl, _⟩ := heq h0
    obtain ⟨i, hi, rfl⟩ := hl.of_pt ok hf
    obtain ⟨_, z, hz, hz2⟩ := hl.look ok s hi
    rw [hfy] at hz2
    cases hz2
    rw [if_pos (by rw [← hx]; exact h0), hi]
    subst h0
    refine ⟨rfl, ⟨_, ρ, hr, hok, ?_, rfl, rfl, rfl⟩, hF⟩
    show Link (S.synced (ρ i) y) { P with fil := P.fil.set i ((P.at i).1, (P.at i).1.length), n := P.n + 1 } ρ
    rw [at_eq hz]
    exact hl.synced hz
  · obtain rfl := hne h0
    rw [if_neg (by rw [← hx]; exact h0), ← hx]
    exact ⟨rfl, ⟨_, ρ, hr, hok, hl, rfl, rfl, rfl⟩, hF⟩
theorem dr_append (h : DR w B d P cutAt cuts gone) (hon : On P.n cutAt cuts gone) (hB : B ≤ w.heap.size) (s : ByteArray) (hs : s.size ≤ maxLen) (ao : Option Addr) (len cap : Nat) (xs : List Int) (hx : Sl w ao len cap xs) (hxa : 0 < len → ∀ b off, ao = some ⟨b, off, none⟩ → b < B ∧ b ≠ d) :
    Calls Tryz.prog 177 #[.pointer (some ⟨d, 0, none⟩), .string s, .slice ao len cap] w fun e w' => e = .returned (.int .i64 (P.app s xs).1) ∧ DR w' B d (P.app s xs).2 cutAt cuts gone ∧ Fr (FD B d) w w' := by
  obtain ⟨S, ρ, h1, ok, hl, rfl, rfl, rfl⟩ := h
  have hxl := hx.1
  refine (rep_append h1 ok (by rw [hl.ops]; exact hon) hB s hs ao len cap xs hx hxa).mono ?_
  rintro e w' ⟨x, S', rfl, hr, hok, hF, hcase⟩
  unfold PD.app
  have hhas := hl.has ok s
  have hsz := hl.size ok
  have hop := hl.ops
  rcases hcase with ⟨rfl, hn, rfl⟩ | ⟨rfl, hn, rfl, hwhy⟩ | ⟨rfl, hn, ho, hh, hle, hsm, f, hf, _, rfl⟩ | ⟨rfl, hn, ho, f, y, hf, hfy, hle, rfl⟩
  · rw [if_pos hn]
    exact ⟨rfl, ⟨_, ρ, hr, hok, hl, rfl, rfl, rfl⟩, hF⟩
  · rw [if_neg (by rw [hn]; decide)]
    rcases hwhy with ⟨hh, hw⟩ | ⟨f, y, hf, hfy, hw⟩
    · have hnone : plook (kl s) P.now = none := by
        rw [hhas] at hh
        exact Option.not_isSome_iff_eq_none.1 (by rw [hh]; decide)
      rw [hnone]
      rw [hop, hsz] at hw
      show _ = Ending.returned (.int .i64 (if 65536 ≤ P.n ∨ 262144 < xs.length ∨ 64 ≤ P.now.length then (23, P) else _).1) ∧ DR _ _ _ (if 65536 ≤ P.n ∨ 262144 < xs.length ∨ 64 ≤ P.now.length then (23, P) else _).2 _ _ _ ∧ _
      rw [if_pos (by rw [hxl]; exact hw)]
      exact ⟨rfl, ⟨_, ρ, hr, hok, hl, rfl, rfl, rfl⟩, hF⟩
    · obtain ⟨i, hi, rfl⟩ := hl.of_pt ok hf
      obtain ⟨_, z, hz, hz2⟩ := hl.look ok s hi
      rw [hfy] at hz2
      cases hz2
      rw [hi]
      show _ = Ending.returned (.int .i64 (if 65536 ≤ P.n ∨ 262144 < xs.length + (P.at i).1.length then (23, P) else _).1) ∧ DR _ _ _ (if 65536 ≤ P.n ∨ 262144 < xs.length + (P.at i).1.length then (23, P) else _).2 _ _ _ ∧ _
      rw [if_pos (by rw [hxl, at_eq hz, ← hop]; exact hw)]
      exact ⟨rfl, ⟨_, ρ, hr, hok, hl, rfl, rfl, rfl⟩, hF⟩
  · rw [if_neg (by rw [hn]; decide)]
    have hnone : plook (kl s) P.now = none := by
      rw [hhas] at hh
      exact Option.not_isSome_iff_eq_none.1 (by rw [hh]; decide)
    rw [hnone]
    show _ = Ending.returned (.int .i64 (if 65536 ≤ P.n ∨ 262144 < xs.length ∨ 64 ≤ P.now.length then (23, P) else _).1) ∧ DR _ _ _ (if 65536 ≤ P.n ∨ 262144 < xs.length ∨ 64 ≤ P.now.length then (23, P) else _).2 _ _ _ ∧ _
    rw [if_neg (by rw [hxl]; omega)]
    obtain ⟨ρ', hl'⟩ := hl.made ok s f xs hf
    exact ⟨rfl, ⟨_, ρ', hr, hok, hl', rfl, rfl, rfl⟩, hF⟩
  · rw [if_neg (by rw [hn]; decide)]
    obtain ⟨i, hi, rfl⟩ := hl.of_pt ok hf
    obtain ⟨_, z, hz, hz2⟩ := hl.look ok s hi
    rw [hfy] at hz2
    cases hz2
    rw [hi]
    show _ = Ending.returned (.int .i64 (if 65536 ≤ P.n ∨ 262144 < xs.length + (P.at i).1.length then (23, P) else _).1) ∧ DR _ _ _ (if 65536 ≤ P.n ∨ 262144 < xs.length + (P.at i).1.length then (23, P) else _).2 _ _ _ ∧ _
    rw [if_neg (by rw [hxl, at_eq hz]; omega)]
    refine ⟨rfl, ⟨_, ρ, hr, hok, ?_, rfl, rfl, rfl⟩, hF⟩
    rw [at_eq hz]
    exact hl.grown hz xs

/-- The disk's power is another one: all else is as it was. -/
theorem mem_power {S : AD} {nb sb : Option Nat} {sv : Value} {cs : List Value} {vf : Nat → Value} (M : Mem w B d S nb sb sv cs vf) {c : Int} {k g : Bool} (hD : Dk w' d (.map nb) (.map sb) sv S.ops c k g) (hF : Fr (fun j => j = d) w w') : Mem w' B d { S with cutAt := c, cuts := k, gone := g } nb sb sv cs vf := by
  have ec : ∀ (j : Nat) (cur : Array Value) (t : TypeId), t ≠ 77 → w.heap[j]? = some (Obj.cells cur t (0, 0)) → w'.heap[j]? = w.heap[j]? := fun j cur t ht hh => hF.block j (Array.getElem?_eq_some_iff.1 hh).1 (dk_cells M.dk ht hh)
  refine ⟨hD, Dir.same M.now fun j e => hF.block j (dir_lt M.now j e) (fun e2 => dir_cells M.now M.dk (by rw [← e2]; exact e)), Dir.same M.syn fun j e => hF.block j (dir_lt M.syn j e) (fun e2 => dir_cells M.syn M.dk (by rw [← e2]; exact e)), M.nlo, M.slo, M.ne, row_same M.row fun j e => ?_, fun i ch hi => ?_, M.fils.same fun j cur t ht => ec j cur t (by rcases ht with rfl | rfl <;> decide)⟩
  · obtain ⟨cur, hh, _⟩ := row_block M.row e
    exact ec _ _ _ (by decide) hh
  · obtain ⟨c, h1, h2⟩ := M.chs i ch hi
    exact ⟨c, h1, h2.same2 fun j cur t ht => ec j cur t (by rcases ht with rfl | rfl <;> decide)⟩

theorem dr_power {f : FuncId} {args : Array Value} {v : Value} {c : Int} {k g : Bool} (h : DR w B d P cutAt cuts gone)
    (hc : ∀ now syn since, Dk w d now syn since P.n cutAt cuts gone → Calls Tryz.prog f args w fun e w' => e = .returned v ∧ Dk w' d now syn since P.n c k g ∧ Fr (fun j => j = d) w w') :
    Calls Tryz.prog f args w fun e w' => e = .returned v ∧ DR w' B d P c k g ∧ Fr (FD B d) w w' := by
  obtain ⟨S, ρ, ⟨nb, sb, sv, cs, vf, M⟩, ok, hl, rfl, rfl, rfl⟩ := h
  have hM := M.dk
  rw [hl.ops] at hM
  refine (hc _ _ _ hM).mono ?_
  rintro e w' ⟨rfl, hD, hF⟩
  rw [← hl.ops] at hD
  exact ⟨rfl, ⟨_, ρ, ⟨nb, sb, sv, cs, vf, mem_power M hD hF⟩, ⟨ok.lo, ok.hi, ok.few, ok.isn, ok.iss, ok.szn, ok.szs, ok.road, ok.fine⟩, ⟨hl.ops, hl.len, hl.road, hl.fil, hl.inj, hl.ids⟩, rfl, rfl, rfl⟩, hF.mono (fun j _ e => .inl e)⟩
/-- A disk that nobody wrote. -/
theorem dr_new (n : Nat) (w : World) (hd : Dk w n (.map none) (.map none) (.slice none 0 0) 0 0 false false) (B : Nat) : DR w B n PD.new 0 false false := by
  refine ⟨⟨.nil, .nil, [], fun _ => none, 0, 0, false, false⟩, id, ⟨none, none, .slice none 0 0, [], fun _ => .slice none 0 0, hd, .inl ⟨rfl, rfl⟩, .inl ⟨rfl, rfl⟩, (fun j e => by cases e), (fun j e => by cases e), (fun j e => by cases e), ⟨rfl, .inl ⟨rfl, rfl⟩⟩, (fun i ch hi => by cases hi), ⟨(fun f x hf => by cases hf), (fun f g x y j hf => by cases hf)⟩⟩, ?_, ?_, rfl, rfl, rfl⟩
  · refine ⟨by decide, by decide, by decide, .inl rfl, .inl rfl, by decide, by decide, rfl, fun k hk => ?_⟩
    have : k = 0 := by simpa using hk
    subst this
    exact fine_empty _
  · refine ⟨rfl, rfl, fun k hk => ?_, (fun i x hx => by cases hx), (fun i j hi => by cases hi), fun k hk p hp => ?_⟩
    · have : k = 0 := by simpa [PD.new] using hk
      subst this
      rfl
    · have : k = 0 := by simpa [PD.new] using hk
      subst this
      cases hp
end
end Go.Proofs.YthfcjfhaoabdeaaGreatDoor

/-
  A disk that is read: its names, its files.
-/
set_option linter.unusedVariables false
set_option linter.unusedSimpArgs false
namespace Go.Proofs.YthfcjfhaoabdeaaGreatDoor
open Go.RowKit Go.Maps Go.Sort

/-- The names of a directory, rising. -/
def nm (L : DataW Value) : List ByteArray := ((strKeys L).mergeSort (fun x y => decide (x ≤ y))).map fun b => ⟨b.toArray⟩

set_option maxHeartbeats 2000000 in
theorem names_nil {w : World} {d : Nat} {syn since : Value} {ops cutAt : Int} {cuts gone : Bool} (h : Dk w d (.map none) syn since ops cutAt cuts gone) :
    Calls Tryz.prog 49 #[.pointer (some ⟨d, 0, none⟩)] w fun e w' => e = .returned (.slice none 0 0) ∧ Below w.heap.size w w' := by
  refine (callsIn_wide (n := 6)).1 ?_
  obtain ⟨c0, c1, c2, c3, c4, c5, c6⟩ := h.cells
  have cK : ∀ W, CallsIn Fence.wide 5 Tryz.prog 71 #[.map none] W _ := fun W => keys_any none W
  have cS := sortedKeys_nil w
  have hfK : Fence.wide.fn 71 := trivial
  have hfS : Fence.wide.fn 70 := trivial
  refine callsIn_of_wp Tryz.func49 rfl trivial ?_ rfl
  simp only [Tryz.ntmps49, List.size_toArray, List.length_cons, List.length_nil, Nat.reduceAdd, Nat.reduceSub, Array.replicate_succ, Array.replicate_zero, List.push_toArray, List.append_toArray, List.nil_append, List.cons_append]
  gi_wp2_with (first
    | (gi_at_call 71; refine (cK _).mono ?_; rintro e w' ⟨rfl, rfl⟩)
    | (gi_at_call 70; refine cS.mono ?_; rintro e w' ⟨v, ss, rfl, rfl, hrow, hnil, hb⟩; obtain rfl : v = .slice none 0 0 := hnil.2 rfl))
  go_ret
  exact ⟨rfl, ((Below.refl _ w).alloc (Nat.le_refl _) _).trans (hb.mono (by simp))⟩

end Go.Proofs.YthfcjfhaoabdeaaGreatDoor

/-
  The same for a disk whose blocks are a set, so that two disks may lie between each other.
-/
set_option linter.unusedVariables false
set_option linter.unusedSimpArgs false
namespace Go.Proofs.YthfcjfhaoabdeaaGreatDoor.Land
open Go.RowKit Go.Maps

/-- Files in memory. -/
def Fils (w : World) (K : Nat → Prop) (fil : Nat → Option (List Int × Nat)) (vf : Nat → Value) : Prop :=
  (∀ f x, fil f = some x → Fl w f (vf f) x.2 ∧ Own w 0 (vf f) x.1 ∧ Byt x.1 ∧ x.2 ≤ x.1.length ∧ x.1.length ≤ 262144 ∧ K f ∧ ∀ j, (vf f).ownBlock = some j → K j) ∧
  ∀ f g x y j, fil f = some x → fil g = some y → (vf f).ownBlock = some j → (vf g).ownBlock = some j → f = g

theorem Fils.same {w w' : World} {K : Nat → Prop} {fil : Nat → Option (List Int × Nat)} {vf : Nat → Value} (h : Fils w K fil vf)
    (e : ∀ (j : Nat) (cur : Array Value) (t : TypeId), t = 200 ∨ t = 5 → w.heap[j]? = some (Obj.cells cur t (0, 0)) → w'.heap[j]? = w.heap[j]?) : Fils w' K fil vf := by
  refine ⟨fun f x hf => ?_, h.2⟩
  obtain ⟨h1, h2, h3⟩ := h.1 f x hf
  refine ⟨(e _ _ _ (.inl rfl) h1).trans h1, row_same h2 fun j hj => ?_, h3⟩
  obtain ⟨cur, hh, _⟩ := row_block h2 hj
  exact e _ _ _ (.inr rfl) hh

/-- What a change has laid by. -/
def boxes : Value → List Nat
  | .func _ _ cs => cs.toList.filterMap fun v => match v with | .pointer (some a) => some a.block | _ => none
  | _ => []
theorem boxes_mk (f n : Nat) : boxes (mkCl f n) = [f, n] := rfl
theorem boxes_dl (n : Nat) : boxes (dlCl n) = [n] := rfl
theorem boxes_rn (n m : Nat) : boxes (rnCl n m) = [n, m] := rfl
theorem chat_boxes {w w' : World} {c : Value} {ch : Ch} (h : ChAt w c ch) (e : ∀ j ∈ boxes c, w'.heap[j]? = w.heap[j]?) : ChAt w' c ch := by
  cases ch with
  | mk s f =>
    obtain ⟨fb, nb, rfl, h1, h2, h3⟩ := h
    exact ⟨fb, nb, rfl, (e _ (by simp [boxes_mk])).trans h1, (e _ (by simp [boxes_mk])).trans h2, h3⟩
  | del s =>
    obtain ⟨nb, rfl, h1, h3⟩ := h
    exact ⟨nb, rfl, (e _ (by simp [boxes_dl])).trans h1, h3⟩
  | ren s t =>
    obtain ⟨nb, mb, rfl, h1, h2, h3, h4⟩ := h
    exact ⟨nb, mb, rfl, (e _ (by simp [boxes_rn])).trans h1, (e _ (by simp [boxes_rn])).trans h2, h3, h4⟩
theorem boxes_lt {w : World} {c : Value} {ch : Ch} (h : ChAt w c ch) : ∀ j ∈ boxes c, j < w.heap.size := fun j hj => by
  cases ch with
  | mk s f =>
    obtain ⟨fb, nb, rfl, h1, h2, h3⟩ := h
    rw [boxes_mk] at hj
    simp at hj
    rcases hj with rfl | rfl
    · exact h2.lt
    · exact h1.lt
  | del s =>
    obtain ⟨nb, rfl, h1, h3⟩ := h
    rw [boxes_dl] at hj
    simp at hj
    subst hj
    exact h1.lt
  | ren s t =>
    obtain ⟨nb, mb, rfl, h1, h2, h3, h4⟩ := h
    rw [boxes_rn] at hj
    simp at hj
    rcases hj with rfl | rfl
    · exact h1.lt
    · exact h2.lt
structure Mem (w : World) (K : Nat → Prop) (d : Nat) (S : AD) (nb sb : Option Nat) (sv : Value) (cs : List Value) (vf : Nat → Value) : Prop where
  dk : Dk w d (.map nb) (.map sb) sv S.ops S.cutAt S.cuts S.gone
  now : Dir w nb S.now
  syn : Dir w sb S.syn
  nlo : ∀ j, nb = some j → K j
  slo : ∀ j, sb = some j → K j
  ne : ∀ j, nb = some j → sb ≠ some j
  row : w.ownsRow 0 370 1 sv S.chs.length cs
  rlo : ∀ j, sv.ownBlock = some j → K j
  chs : ∀ (i : Nat) (ch : Ch), S.chs[i]? = some ch → ∃ c, cs[i]? = some c ∧ ChAt w c ch ∧ ∀ j ∈ boxes c, K j
  fils : Fils w K S.fil vf

def Rep (w : World) (K : Nat → Prop) (d : Nat) (S : AD) : Prop := ∃ nb sb sv cs vf, Mem w K d S nb sb sv cs vf

section
variable {w w' : World} {K : Nat → Prop} {d : Nat} {S : AD} {nb sb : Option Nat} {sv : Value} {cs : List Value} {vf : Nat → Value}

theorem Mem.same (M : Mem w K d S nb sb sv cs vf) (e : ∀ j, j < w.heap.size → w'.heap[j]? = w.heap[j]?) : Mem w' K d S nb sb sv cs vf := by
  have ec : ∀ (j : Nat) (cur : Array Value) (t : TypeId), w.heap[j]? = some (Obj.cells cur t (0, 0)) → w'.heap[j]? = w.heap[j]? := fun j cur t h => e j (Array.getElem?_eq_some_iff.1 h).1
  refine ⟨M.dk.same (e _ M.dk.lt), Dir.same M.now fun j h => e j (dir_lt M.now j h), Dir.same M.syn fun j h => e j (dir_lt M.syn j h), M.nlo, M.slo, M.ne, row_same M.row fun j h => ?_, M.rlo, fun i ch hi => ?_, M.fils.same fun j cur t _ => ec j cur t⟩
  · obtain ⟨cur, hh, _⟩ := row_block M.row h
    exact ec _ _ _ hh
  · obtain ⟨c, h1, h2, hbx⟩ := M.chs i ch hi
    exact ⟨c, h1, h2.same2 (fun j cur t _ => ec j cur t), hbx⟩
theorem Mem.change (M : Mem w K d S nb sb sv cs vf) (hK : ∀ j, w.heap.size ≤ j → K j) {b n' : Nat} {sv' c : Value} {ch : Ch} {D' : DataW Value} {fil' : Nat → Option (List Int × Nat)} {vf' : Nat → Value} (hbn : nb = some b ∨ nb = none ∧ w.heap.size ≤ b)
    (dk' : Dk w' d (.map (some b)) (.map sb) sv' (S.ops + 1) S.cutAt S.cuts S.gone) (own' : w'.ownsMap Tryz.prog 9 RV b n' D') (row' : w'.ownsRow 0 370 1 sv' (S.chs.length + 1) (cs ++ [c])) (hc : ChAt w' c ch) (hbc : ∀ j ∈ boxes c, K j)
    (hsv : sv'.ownBlock = sv.ownBlock ∨ ∃ j, sv'.ownBlock = some j ∧ w.heap.size ≤ j) (F : Fr (fun j => j = d ∨ nb = some j ∨ sv.ownBlock = some j) w w') (hf : Fils w' K fil' vf') :
    Mem w' K d { S with now := D', chs := S.chs ++ [ch], fil := fil', ops := S.ops + 1 } (some b) sb sv' (cs ++ [c]) vf' := by
  have hcl : cs.length = S.chs.length := by have := M.row.1; omega
  refine ⟨dk', .inr ⟨b, n', rfl, own'⟩, Dir.same M.syn fun j h => F.block j (dir_lt M.syn j h) ?_, fun j h => ?_, M.slo, fun j h hs => ?_, ?_, fun j h => ?_, fun i ch' hi => ?_, hf⟩
  · rintro (e | e | e)
    · subst e; exact dir_cells M.syn M.dk h
    · exact M.ne j e h
    · obtain ⟨cur, hh, _⟩ := row_block M.row e
      exact dir_cells M.syn hh h
  · cases h
    rcases hbn with e | ⟨_, e⟩
    · exact M.nlo _ e
    · exact hK _ e
  · cases h
    rcases hbn with e | ⟨_, e⟩
    · exact M.ne _ e hs
    · have := dir_lt M.syn _ hs; omega
  · simpa using row'
  · rcases hsv with e | ⟨j', e, hj⟩
    · exact M.rlo j (by rw [← e]; exact h)
    · rw [e] at h; cases h; exact hK _ hj
  · have hi' : (S.chs ++ [ch])[i]? = some ch' := hi
    by_cases e : i < S.chs.length
    · rw [List.getElem?_append_left e] at hi'
      obtain ⟨c', h1, h2, h3⟩ := M.chs i ch' hi'
      refine ⟨c', by rw [List.getElem?_append_left (by omega)]; exact h1, h2.same2 (fun j cur t ht hh => F.block j (Array.getElem?_eq_some_iff.1 hh).1 ?_), h3⟩
      rintro (e | e | e)
      · exact dk_cells M.dk (by rcases ht with rfl | rfl <;> decide) hh e
      · exact dir_cells M.now hh e
      · exact row_cells M.row (by rcases ht with rfl | rfl <;> decide) hh e
    · rw [List.getElem?_append_right (by omega)] at hi'
      have e2 : i - S.chs.length = 0 := by
        rcases Nat.eq_zero_or_pos (i - S.chs.length) with h | h
        · exact h
        · rw [List.getElem?_eq_none (by simp; omega)] at hi'; cases hi'
      rw [e2] at hi'
      cases hi'
      refine ⟨c, ?_, hc, hbc⟩
      rw [List.getElem?_append_right (by omega), hcl, e2]
      rfl

theorem Mem.mono {K' : Nat → Prop} (M : Mem w K d S nb sb sv cs vf) (h : ∀ j, j < w.heap.size → K j → K' j) : Mem w K' d S nb sb sv cs vf :=
  ⟨M.dk, M.now, M.syn, fun j e => h j (dir_lt M.now j e) (M.nlo j e), fun j e => h j (dir_lt M.syn j e) (M.slo j e), M.ne, M.row, fun j e => h j (M.row.lt j e).2 (M.rlo j e), (fun i ch hi => by
      obtain ⟨c, a1, a2, a3⟩ := M.chs i ch hi
      exact ⟨c, a1, a2, fun j hj => h j (boxes_lt a2 j hj) (a3 j hj)⟩),
    ⟨fun f x hf => by
      obtain ⟨h1, h2, h3, h4, h5, h6, h7⟩ := M.fils.1 f x hf
      exact ⟨h1, h2, h3, h4, h5, h _ h1.lt h6, fun j e => h j (World.ownsRow.lt h2 j e).2 (h7 j e)⟩, M.fils.2⟩⟩
theorem Rep.mono {K' : Nat → Prop} (R : Rep w K d S) (h : ∀ j, j < w.heap.size → K j → K' j) : Rep w K' d S := by
  obtain ⟨nb, sb, sv, cs, vf, M⟩ := R
  exact ⟨nb, sb, sv, cs, vf, M.mono h⟩

/-- The files, where the directory alone has changed. -/
theorem Mem.files (M : Mem w K d S nb sb sv cs vf) (F : Fr (fun j => j = d ∨ nb = some j ∨ sv.ownBlock = some j) w w') : Fils w' K S.fil vf :=
  M.fils.same fun j cur t ht hh => F.block j (Array.getElem?_eq_some_iff.1 hh).1 (by
    rintro (e | e | e)
    · exact dk_cells M.dk (by rcases ht with rfl | rfl <;> decide) hh e
    · exact dir_cells M.now hh e
    · exact row_cells M.row (by rcases ht with rfl | rfl <;> decide) hh e)
end
end Go.Proofs.YthfcjfhaoabdeaaGreatDoor.Land

/-
  The operations of the disk, held against the disk told apart from memory.
-/
set_option linter.unusedVariables false
set_option linter.unusedSimpArgs false
namespace Go.Proofs.YthfcjfhaoabdeaaGreatDoor.Land
open Go.RowKit Go.Maps

/-- Where a disk may have changed. -/
def KD (K : Nat → Prop) (d : Nat) (j : Nat) : Prop := j = d ∨ K j

section
variable {w w' : World} {K : Nat → Prop} {d : Nat} {S : AD}

theorem Mem.wide {nb sb : Option Nat} {sv : Value} {cs : List Value} {vf : Nat → Value} (M : Mem w K d S nb sb sv cs vf) (F : Fr (fun j => j = d ∨ nb = some j ∨ sv.ownBlock = some j) w w') : Fr (KD K d) w w' :=
  F.mono fun j _ e => by
    rcases e with e | e | e
    · exact .inl e
    · exact .inr (M.nlo j e)
    · exact .inr (M.rlo j e)

theorem rep_sync (h : Rep w K d S) (ok : S.ok) (hon : On S.ops S.cutAt S.cuts S.gone) (hK : ∀ j, w.heap.size ≤ j → K j) (s : ByteArray) (hs : s.size ≤ maxLen) :
    Calls Tryz.prog 179 #[.pointer (some ⟨d, 0, none⟩), .string s] w fun e w' => ∃ x S', e = .returned (.int .i64 x) ∧ Rep w' K d S' ∧ S'.ok ∧ Fr (KD K d) w w' ∧ (x ≠ 0 → S' = S) ∧
      (x = 0 → ∃ f y, (∀ z, (dn S.now).atKey (kl s) z = pt f) ∧ S.fil f = some y ∧ S' = S.synced f y ∧ isName s = true) ∧ ∃ p, Leads S.now s p ∧ x = code (isName s) p S.ops := by
  obtain ⟨nb, sb, sv, cs, vf, M⟩ := h
  obtain ⟨p, hp, hpf⟩ : ∃ p, Leads S.now s p ∧ (∀ a, p = some a → ∃ f x, a = ⟨f, 0, none⟩ ∧ (∀ z, (dn S.now).atKey (kl s) z = pt f) ∧ S.fil f = some x) := by
    rcases ok.lead s with ⟨_, h2⟩ | ⟨f, x, h1, h2, h3, h4⟩
    · exact ⟨none, h2, fun a e => by cases e⟩
    · exact ⟨_, h3, fun a e => by cases e; exact ⟨f, x, rfl, h2, h4⟩⟩
  by_cases hz : code (isName s) p S.ops = 0
  · obtain ⟨hn, ⟨a, rfl⟩, hop⟩ := code_zero hz
    obtain ⟨f, x, rfl, hat, hff⟩ := hpf a rfl
    obtain ⟨g1, g2, g3, g4, g5, g6, g7⟩ := M.fils.1 f x hff
    obtain ⟨ao, l, cap, hv, hsl, _⟩ := g2.sl' g3
    have hl : l = x.1.length := hsl.1.symm
    rw [hv] at g1
    refine (sync_ok M.dk hon M.now ok.lo s hn f x.2 l cap ao hp hop g1).mono ?_
    rintro e w' ⟨rfl, h1, h2, F⟩
    have hdl := M.dk
    have ec : ∀ (j : Nat) (cur : Array Value) (t : TypeId), t ≠ 77 → j ≠ f → w.heap[j]? = some (Obj.cells cur t (0, 0)) → w'.heap[j]? = w.heap[j]? := fun j cur t ht hj hh => F.block j (Array.getElem?_eq_some_iff.1 hh).1 (by
      rintro (e | e)
      · exact dk_cells M.dk ht hh e
      · exact hj e)
    have ef : ∀ (j : Nat) (cur : Array Value) (t : TypeId), t ≠ 200 → w.heap[j]? = some (Obj.cells cur t (0, 0)) → j ≠ f := fun j cur t ht hh e => by
      have g1' : w.heap[f]? = _ := g1
      rw [e, g1'] at hh
      simp at hh
      exact ht hh.2.symm
    have em : ∀ j, (nb = some j ∨ sb = some j) → w'.heap[j]? = w.heap[j]? := fun j hj => F.block j (by
      rcases hj with e | e
      · exact dir_lt M.now j e
      · exact dir_lt M.syn j e) (by
      rintro (e | e)
      · subst e
        rcases hj with e | e
        · exact dir_cells M.now M.dk e
        · exact dir_cells M.syn M.dk e
      · subst e
        rcases hj with e | e
        · exact dir_cells M.now g1 e
        · exact dir_cells M.syn g1 e)
    have hdisk : (5 : TypeId) ≠ 77 ∧ (5 : TypeId) ≠ 200 := by decide
    refine ⟨0, S.synced f x, rfl, ⟨nb, sb, sv, cs, vf, ?_⟩, ?_, F.mono fun j _ e => ?_, fun e => absurd rfl e, fun _ => ⟨f, x, hat, hff, rfl, hn⟩, _, hp, hz.symm⟩
    · refine ⟨h1, Dir.same M.now fun j e => em j (.inl e), Dir.same M.syn fun j e => em j (.inr e), M.nlo, M.slo, M.ne, row_same M.row fun j e => ?_, M.rlo, fun i ch hi => ?_, ⟨fun g y hg => ?_, fun g g' y y' j hg hg' => ?_⟩⟩
      · obtain ⟨cur, hh, _⟩ := row_block M.row e
        exact ec _ _ _ (by decide) (ef _ _ _ (by decide) hh) hh
      · obtain ⟨c, a1, a2, hbx⟩ := M.chs i ch hi
        exact ⟨c, a1, a2.same2 (fun j cur t ht hh => ec _ _ _ (by rcases ht with rfl | rfl <;> decide) (ef _ _ _ (by rcases ht with rfl | rfl <;> decide) hh) hh), hbx⟩
      · by_cases e : g = f
        · subst e
          have hg' : (if g = g then some (x.1, x.1.length) else S.fil g) = some y := hg
          rw [if_pos rfl] at hg'
          cases hg'
          refine ⟨?_, row_same g2 fun j ej => ?_, g3, Nat.le_refl _, g5, g6, g7⟩
          · show Fl w' g (vf g) x.1.length
            rw [hv, ← hl]
            exact h2
          · obtain ⟨cur, hh, _⟩ := row_block g2 ej
            exact ec _ _ _ hdisk.1 (ef _ _ _ hdisk.2 hh) hh
        · have hg' : (if g = f then some (x.1, x.1.length) else S.fil g) = some y := hg
          rw [if_neg e] at hg'
          obtain ⟨k1, k2, k3⟩ := M.fils.1 g y hg'
          refine ⟨(ec _ _ _ (by decide) e k1).trans k1, row_same k2 fun j ej => ?_, k3⟩
          obtain ⟨cur, hh, _⟩ := row_block k2 ej
          exact ec _ _ _ hdisk.1 (ef _ _ _ hdisk.2 hh) hh
      · have back : ∀ g y, (S.synced f x).fil g = some y → ∃ y', S.fil g = some y' := fun g y hg => by
          by_cases e : g = f
          · subst e; exact ⟨x, hff⟩
          · have hg' : (if g = f then some (x.1, x.1.length) else S.fil g) = some y := hg
            rw [if_neg e] at hg'
            exact ⟨y, hg'⟩
        obtain ⟨z, hz⟩ := back g y hg
        obtain ⟨z', hz'⟩ := back g' y' hg'
        exact M.fils.2 g g' z z' j hz hz'
    · refine ok.files _ (S.ops + 1) (by omega) (by omega) fun g y hg => ?_
      by_cases e : g = f
      · exact ⟨(x.1, x.1.length), by simp [e]⟩
      · exact ⟨y, by simp [e, hg]⟩
    · rcases e with e | e
      · exact .inl e
      · exact .inr (by rw [e]; exact g6)
  · refine (sync_err M.dk hon M.now s hs p hp _ rfl hz).mono ?_
    rintro e w' ⟨rfl, q, rfl⟩
    exact ⟨_, S, rfl, ⟨_, _, _, _, _, M.same fun j hj => rfl⟩, ok, (Fr.refl _ _).drewN q, fun _ => rfl, fun e => absurd e hz, p, hp, rfl⟩

theorem rep_syncDir (h : Rep w K d S) (ok : S.ok) (hon : On S.ops S.cutAt S.cuts S.gone) (hK : ∀ j, w.heap.size ≤ j → K j) :
    Calls Tryz.prog 139 #[.pointer (some ⟨d, 0, none⟩)] w fun e w' => ∃ x S', e = .returned (.int .i64 x) ∧ Rep w' K d S' ∧ S'.ok ∧ Fr (KD K d) w w' ∧ x = (if 65536 ≤ S.ops then 23 else 0) ∧ S' = if 65536 ≤ S.ops then S else S.dirSynced := by
  obtain ⟨nb, sb, sv, cs, vf, M⟩ := h
  by_cases hop : 65536 ≤ S.ops
  · refine (syncDir_full M.dk hon hop).mono ?_
    rintro e w' ⟨rfl, q, rfl⟩
    exact ⟨_, S, rfl, ⟨_, _, _, _, _, M.same fun j hj => rfl⟩, ok, (Fr.refl _ _).drewN q, by rw [if_pos hop], by rw [if_pos hop]⟩
  · refine (syncDir_ok M.dk hon M.now (by have := ok.szn; omega) ok.lo (by omega)).mono ?_
    rintro e w' ⟨b, rfl, hb, h1, h2, F⟩
    have ec : ∀ (j : Nat) (cur : Array Value) (t : TypeId), t ≠ 77 → w.heap[j]? = some (Obj.cells cur t (0, 0)) → w'.heap[j]? = w.heap[j]? := fun j cur t ht hh => F.block j (Array.getElem?_eq_some_iff.1 hh).1 (dk_cells M.dk ht hh)
    refine ⟨0, S.dirSynced, rfl, ⟨nb, some b, .slice none 0 0, [], vf, ?_⟩, ok.sync (by omega), F.mono fun j _ e => .inl e, by rw [if_neg hop], by rw [if_neg hop]⟩
    refine ⟨h1, Dir.same M.now fun j e => F.block j (dir_lt M.now j e) (fun e2 => by subst e2; exact dir_cells M.now M.dk e), .inr ⟨b, _, rfl, h2⟩, M.nlo, (fun j e => by cases e; exact hK _ hb), fun j e e2 => ?_, World.ownsRow_nil _ _ _ _, (fun j e => by cases e), (fun i ch hi => by cases hi), M.fils.same fun j cur t ht hh => ec j cur t (by rcases ht with rfl | rfl <;> decide) hh⟩
    cases e2
    have := dir_lt M.now _ e
    omega
end
end Go.Proofs.YthfcjfhaoabdeaaGreatDoor.Land

/-
  Append, held against the disk told apart from memory.
-/
set_option linter.unusedVariables false
set_option linter.unusedSimpArgs false
namespace Go.Proofs.YthfcjfhaoabdeaaGreatDoor.Land
open Go.RowKit Go.Maps

section
variable {w w' : World} {K : Nat → Prop} {d : Nat} {S : AD}

theorem rep_append (h : Rep w K d S) (ok : S.ok) (hon : On S.ops S.cutAt S.cuts S.gone) (hK : ∀ j, w.heap.size ≤ j → K j) (s : ByteArray) (hs : s.size ≤ maxLen) (ao : Option Addr) (len cap : Nat) (xs : List Int) (hx : Sl w ao len cap xs) (hxa : 0 < len → ∀ b off, ao = some ⟨b, off, none⟩ → ¬ K b ∧ b ≠ d) :
    Calls Tryz.prog 177 #[.pointer (some ⟨d, 0, none⟩), .string s, .slice ao len cap] w fun e w' => ∃ x S', e = .returned (.int .i64 x) ∧ Rep w' K d S' ∧ S'.ok ∧ Fr (KD K d) w w' ∧
      ((x = 20 ∧ isName s = false ∧ S' = S) ∨
       (x = 23 ∧ isName s = true ∧ S' = S ∧ ((Maps.has (dn S.now) (kl s) = false ∧ (65536 ≤ S.ops ∨ 262144 < len ∨ 64 ≤ Maps.size S.now)) ∨ ∃ f y, (∀ z, (dn S.now).atKey (kl s) z = pt f) ∧ S.fil f = some y ∧ (65536 ≤ S.ops ∨ 262144 < len + y.1.length))) ∨
       (x = 0 ∧ isName s = true ∧ S.ops < 65536 ∧ Maps.has (dn S.now) (kl s) = false ∧ len ≤ 262144 ∧ Maps.size S.now < 64 ∧ ∃ f, S.fil f = none ∧ w.heap.size ≤ f ∧ S' = S.made s f xs) ∨
       (x = 0 ∧ isName s = true ∧ S.ops < 65536 ∧ ∃ f y, (∀ z, (dn S.now).atKey (kl s) z = pt f) ∧ S.fil f = some y ∧ len + y.1.length ≤ 262144 ∧ S' = S.grown f y xs)) := by
  obtain ⟨nb, sb, sv, cs, vf, M⟩ := h
  have hlen : len ≤ maxLen := Nat.le_trans hx.2.1 hx.2.2.1
  cases hn : isName s with
  | false =>
    refine (append_bad M.dk hon s hs hn _).mono ?_
    rintro e w' ⟨rfl, hb⟩
    exact ⟨_, S, rfl, ⟨_, _, _, _, _, M.same fun j hj => hb.block j hj⟩, ok, Fr.below hb, .inl ⟨rfl, rfl, rfl⟩⟩
  | true =>
    rcases ok.lead s with ⟨hhas, hl⟩ | ⟨f, y, hhas, hat, hl, hff⟩
    · by_cases hfull : 65536 ≤ S.ops ∨ 262144 < len ∨ 64 ≤ Maps.size S.now
      · refine (append_full M.dk hon M.now s hn none hl ao len cap hlen (fun a e => by cases e) (fun _ ho => by omega)).mono ?_
        rintro e w' ⟨rfl, hb⟩
        exact ⟨_, S, rfl, ⟨_, _, _, _, _, M.same fun j hj => hb.block j hj⟩, ok, Fr.below hb, .inr (.inl ⟨rfl, rfl, rfl, .inl ⟨hhas, hfull⟩⟩)⟩
      · have hop : S.ops < 65536 := by omega
        have hch := ok.few
        refine (append_new M.dk hon M.now M.row (Nat.zero_le _) (by omega) (by omega) ok.lo hop s hn hl ao len cap xs hx (by omega) (fun h0 b off e => ?_)).mono ?_
        · obtain ⟨h1, h2⟩ := hxa h0 b off e
          refine ⟨h2, fun e2 => ?_, fun e2 => ?_⟩
          · exact h1 (M.nlo b e2)
          · exact h1 (M.rlo b e2)
        · rintro e w' ⟨f, nb', fb, b, sv', fv, rfl, a1, a2, a3, a4, a5, a6, a7, a8, a9, a10, a11, a12, a13, F⟩
          have hnew : S.fil f = none := by
            cases hf : S.fil f with
            | none => rfl
            | some y => have := (M.fils.1 f y hf).1.lt; omega
          have hfi : Fils w' K (upd S.fil f (xs, 0)) (fun g => if g = f then fv else vf g) := by
            have M' := M.files F
            refine ⟨fun g y hg => ?_, fun g g' y y' j hg hg' hj hj' => ?_⟩
            · by_cases e : g = f
              · subst e
                rw [upd_same] at hg
                cases hg
                refine ⟨by simpa using a4, by simpa using a5, hx.2.2.2.1, Nat.zero_le _, ?_, hK _ (by omega), fun j hj => hK _ (a6 j (by simpa using hj))⟩
                show xs.length ≤ 262144
                have := hx.1
                omega
              · rw [upd_other _ _ e] at hg
                have := M'.1 g y hg
                simpa [e] using this
            · by_cases e : g = f
              · by_cases e' : g' = f
                · rw [e, e']
                · exfalso
                  rw [upd_other _ _ e'] at hg'
                  have hj2 : fv.ownBlock = some j := by simpa [e] using hj
                  have hj3 : (vf g').ownBlock = some j := by simpa [e'] using hj'
                  obtain ⟨_, _, _, hl2⟩ := row_block (M.fils.1 g' y' hg').2.1 hj3
                  have := a6 j hj2
                  omega
              · by_cases e' : g' = f
                · exfalso
                  rw [upd_other _ _ e] at hg
                  have hj2 : fv.ownBlock = some j := by simpa [e'] using hj'
                  have hj3 : (vf g).ownBlock = some j := by simpa [e] using hj
                  obtain ⟨_, _, _, hl2⟩ := row_block (M.fils.1 g y hg).2.1 hj3
                  have := a6 j hj2
                  omega
                · rw [upd_other _ _ e] at hg
                  rw [upd_other _ _ e'] at hg'
                  exact M.fils.2 g g' y y' j hg hg' (by simpa [e] using hj) (by simpa [e'] using hj')
          refine ⟨0, S.made s f xs, rfl, ⟨some b, sb, sv', cs ++ [mkCl fb nb'], fun g => if g = f then fv else vf g, ?_⟩, ?_, M.wide F, .inr (.inr (.inl ⟨rfl, rfl, hop, hhas, by omega, by omega, f, hnew, a1, rfl⟩))⟩
          · exact M.change hK a9 a10 a11 a12 (ch := .mk s f) (show ChAt w' (mkCl fb nb') (.mk s f) from ⟨fb, nb', rfl, a7, a8, (isName_size hn).2⟩) (fun j hj => by rw [boxes_mk] at hj; simp at hj; rcases hj with rfl | rfl; exact hK _ a3; exact hK _ a2) a13 F hfi
          · refine ok.step (.mk s f) (upd S.fil f (xs, 0)) hop (fun g y hg => ?_) ((dn_map ok.isn).put _ _) ?_ ?_
            · have : g ≠ f := fun e => by rw [e, hnew] at hg; cases hg
              exact ⟨y, by rw [upd_other _ _ this]; exact hg⟩
            · have h1 := size_put_le (dn S.now) (kl s) (pt f)
              rw [dn_sz ok.isn] at h1
              show Maps.size ((dn S.now).put (kl s) (pt f)) ≤ 64
              omega
            · refine Fine.put (ok.now_fine.more fun g y hg => ?_) (dn_map ok.isn) s f (xs, 0) (upd_same _ _ _) hn
              have : g ≠ f := fun e => by rw [e, hnew] at hg; cases hg
              exact ⟨y, by rw [upd_other _ _ this]; exact hg⟩
    · obtain ⟨g1, g2, g3, g4, g5, g6, g7⟩ := M.fils.1 f y hff
      obtain ⟨aof, l, capf, hv, hsl, _⟩ := g2.sl' g3
      have hll : l = y.1.length := hsl.1.symm
      by_cases hfull : 65536 ≤ S.ops ∨ 262144 < len + y.1.length
      · refine (append_full M.dk hon M.now s hn _ hl ao len cap hlen (fun a e => ?_) (fun e => by cases e)).mono ?_
        · cases e
          refine ⟨f, aof, l, capf, y.2, rfl, by rw [hv] at g1; exact g1, by omega, fun ho => ?_⟩
          rcases hfull with h1 | h1
          · omega
          · omega
        · rintro e w' ⟨rfl, hb⟩
          exact ⟨_, S, rfl, ⟨_, _, _, _, _, M.same fun j hj => hb.block j hj⟩, ok, Fr.below hb, .inr (.inl ⟨rfl, rfl, rfl, .inr ⟨f, y, hat, hff, hfull⟩⟩)⟩
      · have hop : S.ops < 65536 := by omega
        refine (append_old M.dk hon M.now (Nat.zero_le _) ok.lo hop s hn f y.2 hl (vf f) y.1 g1 g2 g3 ao len cap xs hx (by omega)).mono ?_
        rintro e w' ⟨fv', rfl, a1, a2, a3, a4, F⟩
        have ec : ∀ (j : Nat) (cur : Array Value) (t : TypeId), t ≠ 77 → j ≠ f → (vf f).ownBlock ≠ some j → w.heap[j]? = some (Obj.cells cur t (0, 0)) → w'.heap[j]? = w.heap[j]? := fun j cur t ht hj hr hh => F.block j (Array.getElem?_eq_some_iff.1 hh).1 (by
          rintro (e | e | e)
          · exact dk_cells M.dk ht hh e
          · exact hj e
          · exact hr e)
        have ef : ∀ (j : Nat) (cur : Array Value) (t : TypeId), t ≠ 200 → w.heap[j]? = some (Obj.cells cur t (0, 0)) → j ≠ f := fun j cur t ht hh e => by
          have g1' : w.heap[f]? = _ := g1
          rw [e, g1'] at hh
          simp at hh
          exact ht hh.2.symm
        have er : ∀ (j : Nat) (cur : Array Value) (t : TypeId), t ≠ 5 → w.heap[j]? = some (Obj.cells cur t (0, 0)) → (vf f).ownBlock ≠ some j := fun j cur t ht hh e => by
          obtain ⟨cur', hh', _⟩ := row_block g2 e
          rw [hh] at hh'
          simp at hh'
          exact ht hh'.2
        have em : ∀ j, (nb = some j ∨ sb = some j) → w'.heap[j]? = w.heap[j]? := fun j hj => F.block j (by
          rcases hj with e | e
          · exact dir_lt M.now j e
          · exact dir_lt M.syn j e) (by
          have hd : ∀ (cur : Array Value) (t : TypeId), w.heap[j]? ≠ some (Obj.cells cur t (0, 0)) := fun cur t hh => by
            rcases hj with e | e
            · exact dir_cells M.now hh e
            · exact dir_cells M.syn hh e
          rintro (e | e | e)
          · subst e; exact hd _ _ M.dk
          · subst e; exact hd _ _ g1
          · obtain ⟨cur, hh, _⟩ := row_block g2 e
            exact hd _ _ hh)
        refine ⟨0, S.grown f y xs, rfl, ⟨nb, sb, sv, cs, fun g => if g = f then fv' else vf g, ?_⟩, ?_, F.mono fun j _ e => ?_, .inr (.inr (.inr ⟨rfl, rfl, hop, f, y, hat, hff, by omega, rfl⟩))⟩
        · refine ⟨a4, Dir.same M.now fun j e => em j (.inl e), Dir.same M.syn fun j e => em j (.inr e), M.nlo, M.slo, M.ne, row_same M.row fun j e => ?_, M.rlo, fun i ch hi => ?_, ⟨fun g z hg => ?_, fun g g' z z' j hg hg' hj hj' => ?_⟩⟩
          · obtain ⟨cur, hh, _⟩ := row_block M.row e
            exact ec _ _ _ (by decide) (ef _ _ _ (by decide) hh) (er _ _ _ (by decide) hh) hh
          · obtain ⟨c, b1, b2, hbx⟩ := M.chs i ch hi
            exact ⟨c, b1, b2.same2 (fun j cur t ht hh => ec _ _ _ (by rcases ht with rfl | rfl <;> decide) (ef _ _ _ (by rcases ht with rfl | rfl <;> decide) hh) (er _ _ _ (by rcases ht with rfl | rfl <;> decide) hh) hh), hbx⟩
          · by_cases e : g = f
            · subst e
              have hg' : upd S.fil g (y.1 ++ xs, y.2) g = some z := hg
              rw [upd_same] at hg'
              cases hg'
              refine ⟨by simpa using a1, by simpa using a2, g3.append hx.2.2.2.1, ?_, ?_, g6, fun j hj => ?_⟩
              · show y.2 ≤ (y.1 ++ xs).length
                rw [List.length_append]; omega
              · show (y.1 ++ xs).length ≤ 262144
                rw [List.length_append]
                have := hx.1
                omega
              · have hj2 : fv'.ownBlock = some j := by simpa using hj
                rcases a3 with e3 | ⟨j', e3, hj3⟩
                · exact g7 j (by rw [← e3]; exact hj2)
                · rw [e3] at hj2; cases hj2; exact hK _ hj3
            · have hg' : upd S.fil f (y.1 ++ xs, y.2) g = some z := hg
              rw [upd_other _ _ e] at hg'
              obtain ⟨k1, k2, k3⟩ := M.fils.1 g z hg'
              show Fl w' g (if g = f then fv' else vf g) z.2 ∧ Own w' 0 (if g = f then fv' else vf g) z.1 ∧ _
              rw [if_neg e]
              refine ⟨(ec _ _ _ (by decide) e (er _ _ _ (by decide) k1) k1).trans k1, row_same k2 fun j ej => ?_, by simpa [e] using k3⟩
              obtain ⟨cur, hh, _⟩ := row_block k2 ej
              exact ec _ _ _ (by decide) (ef _ _ _ (by decide) hh) (fun e2 => e (M.fils.2 g f z y j hg' hff ej e2)) hh
          · have key : ∀ g z j, upd S.fil f (y.1 ++ xs, y.2) g = some z → g ≠ f → (if g = f then fv' else vf g).ownBlock = some j → fv'.ownBlock = some j → False := fun g z j hg e h1 h2 => by
              rw [upd_other _ _ e] at hg
              rw [if_neg e] at h1
              obtain ⟨_, _, _, hl2⟩ := row_block (M.fils.1 g z hg).2.1 h1
              rcases a3 with e3 | ⟨j', e3, hj3⟩
              · rw [e3] at h2
                exact e (M.fils.2 g f z y j hg hff h1 h2)
              · rw [e3] at h2
                cases h2
                omega
            by_cases e : g = f
            · by_cases e' : g' = f
              · rw [e, e']
              · exact (key g' z' j hg' e' hj' (by simpa [e] using hj)).elim
            · by_cases e' : g' = f
              · exact (key g z j hg e hj (by simpa [e'] using hj')).elim
              · have hg2 : upd S.fil f (y.1 ++ xs, y.2) g = some z := hg
                have hg3 : upd S.fil f (y.1 ++ xs, y.2) g' = some z' := hg'
                rw [upd_other _ _ e] at hg2
                rw [upd_other _ _ e'] at hg3
                exact M.fils.2 g g' z z' j hg2 hg3 (by simpa [e] using hj) (by simpa [e'] using hj')
        · refine ok.files _ (S.ops + 1) (by omega) (by omega) fun g z hg => ?_
          by_cases e : g = f
          · exact ⟨(y.1 ++ xs, y.2), by rw [e, upd_same]⟩
          · exact ⟨z, by rw [upd_other _ _ e]; exact hg⟩
        · rcases e with e | e | e
          · exact .inl e
          · exact .inr (by rw [e]; exact g6)
          · exact .inr (g7 j e)
end
end Go.Proofs.YthfcjfhaoabdeaaGreatDoor.Land

/-
  A disk in memory is one without memory: what each operation answers, and leaves.
-/
set_option linter.unusedVariables false
set_option linter.unusedSimpArgs false
namespace Go.Proofs.YthfcjfhaoabdeaaGreatDoor.Land
open Go.RowKit Go.Maps

def DR (w : World) (K : Nat → Prop) (d : Nat) (P : PD) (cutAt : Int) (cuts gone : Bool) : Prop := ∃ S ρ, Rep w K d S ∧ S.ok ∧ Link S P ρ ∧ S.cutAt = cutAt ∧ S.cuts = cuts ∧ S.gone = gone

section
variable {w w' : World} {K : Nat → Prop} {d : Nat} {P : PD} {cutAt : Int} {cuts gone : Bool}
theorem DR.mono {K' : Nat → Prop} (h : DR w K d P cutAt cuts gone) (hK : ∀ j, j < w.heap.size → K j → K' j) : DR w K' d P cutAt cuts gone := by
  obtain ⟨S, ρ, h1, h2⟩ := h
  exact ⟨S, ρ, h1.mono hK, h2⟩
theorem dr_syncDir (h : DR w K d P cutAt cuts gone) (hon : On P.n cutAt cuts gone) (hK : ∀ j, w.heap.size ≤ j → K j) :
    Calls Tryz.prog 139 #[.pointer (some ⟨d, 0, none⟩)] w fun e w' => e = .returned (.int .i64 P.syncDir.1) ∧ DR w' K d P.syncDir.2 cutAt cuts gone ∧ Fr (KD K d) w w' := by
  obtain ⟨S, ρ, h1, ok, hl, rfl, rfl, rfl⟩ := h
  refine (rep_syncDir h1 ok (by rw [hl.ops]; exact hon) hK).mono ?_
  rintro e w' ⟨x, S', rfl, hr, hok, hF, hx, hS⟩
  unfold PD.syncDir
  rw [hl.ops] at hx hS
  by_cases h0 : 65536 ≤ P.n
  · rw [if_pos h0] at hx hS
    rw [if_pos h0, hx]
    subst hS
    exact ⟨rfl, ⟨_, ρ, hr, hok, hl, rfl, rfl, rfl⟩, hF⟩
  · rw [if_neg h0] at hx hS
    rw [if_neg h0, hx]
    subst hS
    exact ⟨rfl, ⟨_, ρ, hr, hok, hl.dirSynced ok, rfl, rfl, rfl⟩, hF⟩
theorem dr_sync (h : DR w K d P cutAt cuts gone) (hon : On P.n cutAt cuts gone) (hK : ∀ j, w.heap.size ≤ j → K j) (s : ByteArray) (hs : s.size ≤ maxLen) :
    Calls Tryz.prog 179 #[.pointer (some ⟨d, 0, none⟩), .string s] w fun e w' => e = .returned (.int .i64 (P.sync s).1) ∧ DR w' K d (P.sync s).2 cutAt cuts gone ∧ Fr (KD K d) w w' := by
  obtain ⟨S, ρ, h1, ok, hl, rfl, rfl, rfl⟩ := h
  refine (rep_sync h1 ok (by rw [hl.ops]; exact hon) hK s hs).mono ?_
  rintro e w' ⟨x, S', rfl, hr, hok, hF, hne, heq, p, hp, hx⟩
  rw [code_eq hl ok hp] at hx
  unfold PD.sync
  by_cases h0 : x = 0
  · obtain ⟨f, y, hf, hfy, rfl, _⟩ := heq h0
    obtain ⟨i, hi, rfl⟩ := hl.of_pt ok hf
    obtain ⟨_, z, hz, hz2⟩ := hl.look ok s hi
    rw [hfy] at hz2
    cases hz2
    rw [if_pos (by rw [← hx]; exact h0), hi]
    subst h0
    refine ⟨rfl, ⟨_, ρ, hr, hok, ?_, rfl, rfl, rfl⟩, hF⟩
    show Link (S.synced (ρ i) y) { P with fil := P.fil.set i ((P.at i).1, (P.at i).1.length), n := P.n + 1 } ρ
    rw [at_eq hz]
    exact hl.synced hz
  · obtain rfl := hne h0
    rw [if_neg (by rw [← hx]; exact h0), ← hx]
    exact ⟨rfl, ⟨_, ρ, hr, hok, hl, rfl, rfl, rfl⟩, hF⟩
theorem dr_append (h : DR w K d P cutAt cuts gone) (hon : On P.n cutAt cuts gone) (hK : ∀ j, w.heap.size ≤ j → K j) (s : ByteArray) (hs : s.size ≤ maxLen) (ao : Option Addr) (len cap : Nat) (xs : List Int) (hx : Sl w ao len cap xs) (hxa : 0 < len → ∀ b off, ao = some ⟨b, off, none⟩ → ¬ K b ∧ b ≠ d) :
    Calls Tryz.prog 177 #[.pointer (some ⟨d, 0, none⟩), .string s, .slice ao len cap] w fun e w' => e = .returned (.int .i64 (P.app s xs).1) ∧ DR w' K d (P.app s xs).2 cutAt cuts gone ∧ Fr (KD K d) w w' := by
  obtain ⟨S, ρ, h1, ok, hl, rfl, rfl, rfl⟩ := h
  have hxl := hx.1
  refine (rep_append h1 ok (by rw [hl.ops]; exact hon) hK s hs ao len cap xs hx hxa).mono ?_
  rintro e w' ⟨x, S', rfl, hr, hok, hF, hcase⟩
  unfold PD.app
  have hhas := hl.has ok s
  have hsz := hl.size ok
  have hop := hl.ops
  rcases hcase with ⟨rfl, hn, rfl⟩ | ⟨rfl, hn, rfl, hwhy⟩ | ⟨rfl, hn, ho, hh, hle, hsm, f, hf, _, rfl⟩ | ⟨rfl, hn, ho, f, y, hf, hfy, hle, rfl⟩
  · rw [if_pos hn]
    exact ⟨rfl, ⟨_, ρ, hr, hok, hl, rfl, rfl, rfl⟩, hF⟩
  · rw [if_neg (by rw [hn]; decide)]
    rcases hwhy with ⟨hh, hw⟩ | ⟨f, y, hf, hfy, hw⟩
    · have hnone : plook (kl s) P.now = none := by
        rw [hhas] at hh
        exact Option.not_isSome_iff_eq_none.1 (by rw [hh]; decide)
      rw [hnone]
      rw [hop, hsz] at hw
      show _ = Ending.returned (.int .i64 (if 65536 ≤ P.n ∨ 262144 < xs.length ∨ 64 ≤ P.now.length then (23, P) else _).1) ∧ DR _ _ _ (if 65536 ≤ P.n ∨ 262144 < xs.length ∨ 64 ≤ P.now.length then (23, P) else _).2 _ _ _ ∧ _
      rw [if_pos (by rw [hxl]; exact hw)]
      exact ⟨rfl, ⟨_, ρ, hr, hok, hl, rfl, rfl, rfl⟩, hF⟩
    · obtain ⟨i, hi, rfl⟩ := hl.of_pt ok hf
      obtain ⟨_, z, hz, hz2⟩ := hl.look ok s hi
      rw [hfy] at hz2
      cases hz2
      rw [hi]
      show _ = Ending.returned (.int .i64 (if 65536 ≤ P.n ∨ 262144 < xs.length + (P.at i).1.length then (23, P) else _).1) ∧ DR _ _ _ (if 65536 ≤ P.n ∨ 262144 < xs.length + (P.at i).1.length then (23, P) else _).2 _ _ _ ∧ _
      rw [if_pos (by rw [hxl, at_eq hz, ← hop]; exact hw)]
      exact ⟨rfl, ⟨_, ρ, hr, hok, hl, rfl, rfl, rfl⟩, hF⟩
  · rw [if_neg (by rw [hn]; decide)]
    have hnone : plook (kl s) P.now = none := by
      rw [hhas] at hh
      exact Option.not_isSome_iff_eq_none.1 (by rw [hh]; decide)
    rw [hnone]
    show _ = Ending.returned (.int .i64 (if 65536 ≤ P.n ∨ 262144 < xs.length ∨ 64 ≤ P.now.length then (23, P) else _).1) ∧ DR _ _ _ (if 65536 ≤ P.n ∨ 262144 < xs.length ∨ 64 ≤ P.now.length then (23, P) else _).2 _ _ _ ∧ _
    rw [if_neg (by rw [hxl]; omega)]
    obtain ⟨ρ', hl'⟩ := hl.made ok s f xs hf
    exact ⟨rfl, ⟨_, ρ', hr, hok, hl', rfl, rfl, rfl⟩, hF⟩
  · rw [if_neg (by rw [hn]; decide)]
    obtain ⟨i, hi, rfl⟩ := hl.of_pt ok hf
    obtain ⟨_, z, hz, hz2⟩ := hl.look ok s hi
    rw [hfy] at hz2
    cases hz2
    rw [hi]
    show _ = Ending.returned (.int .i64 (if 65536 ≤ P.n ∨ 262144 < xs.length + (P.at i).1.length then (23, P) else _).1) ∧ DR _ _ _ (if 65536 ≤ P.n ∨ 262144 < xs.length + (P.at i).1.length then (23, P) else _).2 _ _ _ ∧ _
    rw [if_neg (by rw [hxl, at_eq hz]; omega)]
    refine ⟨rfl, ⟨_, ρ, hr, hok, ?_, rfl, rfl, rfl⟩, hF⟩
    rw [at_eq hz]
    exact hl.grown hz xs

/-- The disk's power is another one: all else is as it was. -/
theorem mem_power {S : AD} {nb sb : Option Nat} {sv : Value} {cs : List Value} {vf : Nat → Value} (M : Mem w K d S nb sb sv cs vf) {c : Int} {k g : Bool} (hD : Dk w' d (.map nb) (.map sb) sv S.ops c k g) (hF : Fr (fun j => j = d) w w') : Mem w' K d { S with cutAt := c, cuts := k, gone := g } nb sb sv cs vf := by
  have ec : ∀ (j : Nat) (cur : Array Value) (t : TypeId), t ≠ 77 → w.heap[j]? = some (Obj.cells cur t (0, 0)) → w'.heap[j]? = w.heap[j]? := fun j cur t ht hh => hF.block j (Array.getElem?_eq_some_iff.1 hh).1 (dk_cells M.dk ht hh)
  refine ⟨hD, Dir.same M.now fun j e => hF.block j (dir_lt M.now j e) (fun e2 => dir_cells M.now M.dk (by rw [← e2]; exact e)), Dir.same M.syn fun j e => hF.block j (dir_lt M.syn j e) (fun e2 => dir_cells M.syn M.dk (by rw [← e2]; exact e)), M.nlo, M.slo, M.ne, row_same M.row fun j e => ?_, M.rlo, fun i ch hi => ?_, M.fils.same fun j cur t ht => ec j cur t (by rcases ht with rfl | rfl <;> decide)⟩
  · obtain ⟨cur, hh, _⟩ := row_block M.row e
    exact ec _ _ _ (by decide) hh
  · obtain ⟨c, h1, h2, hbx⟩ := M.chs i ch hi
    exact ⟨c, h1, h2.same2 (fun j cur t ht => ec j cur t (by rcases ht with rfl | rfl <;> decide)), hbx⟩

theorem dr_power {f : FuncId} {args : Array Value} {v : Value} {c : Int} {k g : Bool} (h : DR w K d P cutAt cuts gone)
    (hc : ∀ now syn since, Dk w d now syn since P.n cutAt cuts gone → Calls Tryz.prog f args w fun e w' => e = .returned v ∧ Dk w' d now syn since P.n c k g ∧ Fr (fun j => j = d) w w') :
    Calls Tryz.prog f args w fun e w' => e = .returned v ∧ DR w' K d P c k g ∧ Fr (KD K d) w w' := by
  obtain ⟨S, ρ, ⟨nb, sb, sv, cs, vf, M⟩, ok, hl, rfl, rfl, rfl⟩ := h
  have hM := M.dk
  rw [hl.ops] at hM
  refine (hc _ _ _ hM).mono ?_
  rintro e w' ⟨rfl, hD, hF⟩
  rw [← hl.ops] at hD
  exact ⟨rfl, ⟨_, ρ, ⟨nb, sb, sv, cs, vf, mem_power M hD hF⟩, ⟨ok.lo, ok.hi, ok.few, ok.isn, ok.iss, ok.szn, ok.szs, ok.road, ok.fine⟩, ⟨hl.ops, hl.len, hl.road, hl.fil, hl.inj, hl.ids⟩, rfl, rfl, rfl⟩, hF.mono (fun j _ e => .inl e)⟩
/-- A disk that nobody wrote. -/
theorem dr_new (n : Nat) (w : World) (hd : Dk w n (.map none) (.map none) (.slice none 0 0) 0 0 false false) (K : Nat → Prop) : DR w K n PD.new 0 false false := by
  refine ⟨⟨.nil, .nil, [], fun _ => none, 0, 0, false, false⟩, id, ⟨none, none, .slice none 0 0, [], fun _ => .slice none 0 0, hd, .inl ⟨rfl, rfl⟩, .inl ⟨rfl, rfl⟩, (fun j e => by cases e), (fun j e => by cases e), (fun j e => by cases e), ⟨rfl, .inl ⟨rfl, rfl⟩⟩, (fun j e => by cases e), (fun i ch hi => by cases hi), ⟨(fun f x hf => by cases hf), (fun f g x y j hf => by cases hf)⟩⟩, ?_, ?_, rfl, rfl, rfl⟩
  · refine ⟨by decide, by decide, by decide, .inl rfl, .inl rfl, by decide, by decide, rfl, fun k hk => ?_⟩
    have : k = 0 := by simpa using hk
    subst this
    exact fine_empty _
  · refine ⟨rfl, rfl, fun k hk => ?_, (fun i x hx => by cases hx), (fun i j hi => by cases hi), fun k hk p hp => ?_⟩
    · have : k = 0 := by simpa [PD.new] using hk
      subst this
      rfl
    · have : k = 0 := by simpa [PD.new] using hk
      subst this
      cases hp
end
end Go.Proofs.YthfcjfhaoabdeaaGreatDoor.Land

/-
  What is done elsewhere leaves a disk as it is; an operation that others may stand between.
-/
set_option linter.unusedVariables false
set_option linter.unusedSimpArgs false
namespace Go.Proofs.YthfcjfhaoabdeaaGreatDoor.Land
open Go.RowKit Go.Maps

section
variable {w w' : World} {K : Nat → Prop} {d : Nat} {P : PD} {cutAt : Int} {cuts gone : Bool}
/-- What the disk has is as it was. -/
structure Kept (K : Nat → Prop) (d : Nat) (w w' : World) : Prop where
  own : ∀ j, j < w.heap.size → (j = d ∨ K j) → w'.heap[j]? = w.heap[j]?
theorem Mem.keep {S : AD} {nb sb : Option Nat} {sv : Value} {cs : List Value} {vf : Nat → Value} (M : Mem w K d S nb sb sv cs vf) (e : Kept K d w w') : Mem w' K d S nb sb sv cs vf := by
  refine ⟨M.dk.same (e.own _ M.dk.lt (.inl rfl)), Dir.same M.now fun j h => e.own j (dir_lt M.now j h) (.inr (M.nlo j h)), Dir.same M.syn fun j h => e.own j (dir_lt M.syn j h) (.inr (M.slo j h)), M.nlo, M.slo, M.ne, row_same M.row fun j h => e.own j (M.row.lt j h).2 (.inr (M.rlo j h)), M.rlo, fun i ch hi => ?_, ⟨fun f x hf => ?_, M.fils.2⟩⟩
  · obtain ⟨c, h1, h2, h3⟩ := M.chs i ch hi
    exact ⟨c, h1, chat_boxes h2 fun j hj => e.own j (boxes_lt h2 j hj) (.inr (h3 j hj)), h3⟩
  · obtain ⟨h1, h2, h3, h4, h5, h6, h7⟩ := M.fils.1 f x hf
    exact ⟨(e.own _ h1.lt (.inr h6)).trans h1, row_same h2 fun j h => e.own j (World.ownsRow.lt h2 j h).2 (.inr (h7 j h)), h3, h4, h5, h6, h7⟩
theorem DR.keep (h : DR w K d P cutAt cuts gone) (e : Kept K d w w') : DR w' K d P cutAt cuts gone := by
  obtain ⟨S, ρ, ⟨nb, sb, sv, cs, vf, M⟩, h2⟩ := h
  exact ⟨S, ρ, ⟨nb, sb, sv, cs, vf, M.keep e⟩, h2⟩

/-- The set behind a call. -/
def more (K : Nat → Prop) (w w' : World) (j : Nat) : Prop := K j ∨ w.heap.size ≤ j ∧ j < w'.heap.size
/-- An operation, with the set as it is and as it becomes. -/
theorem grows {K : Nat → Prop} {f : FuncId} {args : Array Value} {v : Value} {P' : PD} {c : Int} {k g : Bool}
    (hc : ∀ L : Nat → Prop, (∀ j, j < w.heap.size → K j → L j) → (∀ j, j < w.heap.size → L j → K j) → (∀ j, w.heap.size ≤ j → L j) → Calls Tryz.prog f args w fun e w' => e = .returned v ∧ DR w' L d P' c k g ∧ Fr (KD L d) w w') :
    Calls Tryz.prog f args w fun e w' => e = .returned v ∧ DR w' (more K w w') d P' c k g ∧ Fr (KD K d) w w' := by
  refine (hc (fun j => K j ∨ w.heap.size ≤ j) (fun j _ h => .inl h) (fun j hj h => h.resolve_right (by omega)) (fun j h => .inr h)).mono ?_
  rintro e w' ⟨rfl, hD, hF⟩
  refine ⟨rfl, hD.mono fun j hj h => ?_, ⟨hF.os, hF.tape, hF.output, hF.size, fun j hj hn => hF.block j hj ?_⟩⟩
  · rcases h with h | h
    · exact .inl h
    · exact .inr ⟨h, hj⟩
  · rintro (e | e | e)
    · exact hn (.inl e)
    · exact hn (.inr e)
    · omega
end
end Go.Proofs.YthfcjfhaoabdeaaGreatDoor.Land
