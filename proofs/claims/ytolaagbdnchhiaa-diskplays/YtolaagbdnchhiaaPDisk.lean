/-
  The disk without memory: files by number, directories as rising rows of names, changes; how it is held against the disk told apart from memory.
-/
import Derived.Test.YtolaagbdnchhiaaRepCrash
set_option linter.unusedVariables false
set_option linter.unusedSimpArgs false
namespace Go.Proofs.Ytolaagbdnchhiaa
open Go.RowKit Go.Maps

/-! ### Directories as rows -/
abbrev PDir := List (Lit × Nat)
def pins (k : Lit) (i : Nat) : PDir → PDir
  | [] => [(k, i)]
  | y :: r => if k.before y.1 then (k, i) :: y :: r else y :: pins k i r
def pdel (k : Lit) (D : PDir) : PDir := D.filter fun p => !p.1.sameKey k
def pput (k : Lit) (i : Nat) (D : PDir) : PDir := pins k i (pdel k D)
def plook (k : Lit) (D : PDir) : Option Nat := (D.find? fun p => p.1.sameKey k).map (·.2)
/-- A directory's row with the files where they lie. -/
def mp (ρ : Nat → Nat) (D : PDir) : DataW Value := .map (D.map fun p => (p.1, pt (ρ p.2)))

theorem mp_ins (ρ : Nat → Nat) (k : Lit) (i : Nat) : ∀ D : PDir, DataW.insert (k, pt (ρ i)) (D.map fun p => (p.1, pt (ρ p.2))) = (pins k i D).map fun p => (p.1, pt (ρ p.2))
  | [] => rfl
  | y :: r => by
    show DataW.insert (k, pt (ρ i)) ((y.1, pt (ρ y.2)) :: r.map fun p => (p.1, pt (ρ p.2))) = (if k.before y.1 then (k, i) :: y :: r else y :: pins k i r).map fun p => (p.1, pt (ρ p.2))
    have ih := mp_ins ρ k i r
    unfold DataW.insert
    by_cases h : k.before y.1 = true
    · rw [if_pos h, if_pos h]; rfl
    · rw [if_neg h, if_neg h, ih]; rfl
theorem mp_filter (ρ : Nat → Nat) (k : Lit) (D : PDir) : (D.map fun p => (p.1, pt (ρ p.2))).filter (fun p => !p.1.sameKey k) = (pdel k D).map fun p => (p.1, pt (ρ p.2)) := by
  unfold pdel
  rw [List.filter_map]
  rfl
theorem mp_put (ρ : Nat → Nat) (k : Lit) (i : Nat) (D : PDir) : (mp ρ D).put k (pt (ρ i)) = mp ρ (pput k i D) := by
  show DataW.map _ = DataW.map _
  rw [mp_filter, mp_ins]
  rfl
theorem mp_del (ρ : Nat → Nat) (k : Lit) (D : PDir) : (mp ρ D).del k = mp ρ (pdel k D) := by
  show DataW.map _ = DataW.map _
  rw [mp_filter]
theorem mp_find (ρ : Nat → Nat) (k : Lit) (D : PDir) : (D.map fun p => (p.1, pt (ρ p.2))).find? (fun p => p.1.sameKey k) = (D.find? fun p => p.1.sameKey k).map fun p => (p.1, pt (ρ p.2)) := by
  rw [List.find?_map]
  rfl
theorem mp_at {ρ : Nat → Nat} {k : Lit} {D : PDir} {i : Nat} (h : plook k D = some i) (z : DataW Value) : (mp ρ D).atKey k z = pt (ρ i) := by
  unfold plook at h
  simp only [mp, DataW.atKey]
  rw [mp_find]
  cases e : D.find? (fun p => p.1.sameKey k) with
  | none => rw [e] at h; cases h
  | some p => rw [e] at h; cases h; rfl
theorem mp_at_none {ρ : Nat → Nat} {k : Lit} {D : PDir} (h : plook k D = none) (z : DataW Value) : (mp ρ D).atKey k z = z := by
  unfold plook at h
  simp only [mp, DataW.atKey]
  rw [mp_find]
  cases e : D.find? (fun p => p.1.sameKey k) with
  | none => rfl
  | some p => rw [e] at h; cases h
theorem mp_has (ρ : Nat → Nat) (k : Lit) (D : PDir) : Maps.has (mp ρ D) k = (plook k D).isSome := by
  show (D.map fun p => (p.1, pt (ρ p.2))).any (fun p => p.1.sameKey k) = _
  unfold plook
  induction D with
  | nil => rfl
  | cons y r ih =>
    simp only [List.map_cons, List.any_cons, List.find?_cons]
    cases e : y.1.sameKey k with
    | true => rfl
    | false => simpa using ih
theorem mp_size (ρ : Nat → Nat) (D : PDir) : Maps.size (mp ρ D) = D.length := by
  show (D.map fun p => (p.1, pt (ρ p.2))).length = _
  simp
theorem mp_map (ρ : Nat → Nat) (D : PDir) : IsMap (mp ρ D) := ⟨_, rfl⟩
theorem mp_congr {ρ ρ' : Nat → Nat} {D : PDir} (h : ∀ p ∈ D, ρ p.2 = ρ' p.2) : mp ρ D = mp ρ' D := by
  unfold mp
  congr 1
  exact List.map_congr_left fun p hp => by rw [h p hp]
theorem mem_ins {k : Lit} {i : Nat} {p : Lit × Nat} : ∀ {D : PDir}, p ∈ pins k i D → p = (k, i) ∨ p ∈ D
  | [], h => by simpa [pins] using h
  | y :: r, h => by
    unfold pins at h
    split at h
    · rcases List.mem_cons.1 h with h | h
      · exact .inl h
      · exact .inr h
    · rcases List.mem_cons.1 h with h | h
      · exact .inr (h ▸ List.mem_cons_self ..)
      · rcases mem_ins h with h | h
        · exact .inl h
        · exact .inr (List.mem_cons_of_mem _ h)
theorem mem_del {k : Lit} {p : Lit × Nat} {D : PDir} (h : p ∈ pdel k D) : p ∈ D := (List.mem_filter.1 h).1
theorem mem_put {k : Lit} {i : Nat} {p : Lit × Nat} {D : PDir} (h : p ∈ pput k i D) : p = (k, i) ∨ p ∈ D := by
  rcases mem_ins h with h | h
  · exact .inl h
  · exact .inr (mem_del h)
theorem look_mem {k : Lit} {D : PDir} {i : Nat} (h : plook k D = some i) : ∃ p ∈ D, p.2 = i ∧ p.1.sameKey k = true := by
  unfold plook at h
  cases e : D.find? (fun p => p.1.sameKey k) with
  | none => rw [e] at h; cases h
  | some p =>
    rw [e] at h
    cases h
    exact ⟨p, List.mem_of_find?_eq_some e, rfl, by simpa using List.find?_some e⟩

/-! ### Changes, and the disk -/
inductive PC where
  | mk (s : ByteArray) (i : Nat)
  | del (s : ByteArray)
  | ren (s t : ByteArray)
def PC.run : PC → PDir → PDir
  | .mk s i, D => pput (kl s) i D
  | .del s, D => pdel (kl s) D
  | .ren s t, D => match plook (kl s) D with
    | some i => pput (kl t) i (pdel (kl s) D)
    | none => D
def pruns (l : List PC) (D : PDir) : PDir := l.foldl (fun D c => c.run D) D
theorem pruns_snoc (l : List PC) (c : PC) (D : PDir) : pruns (l ++ [c]) D = c.run (pruns l D) := by simp [pruns]

structure PD where
  old : PDir
  log : List PC
  fil : List (List Int × Nat)
  n : Int
def PD.now (P : PD) : PDir := pruns P.log P.old
def PD.new : PD := ⟨[], [], [], 0⟩

structure Link (S : AD) (P : PD) (ρ : Nat → Nat) : Prop where
  ops : S.ops = P.n
  len : S.chs.length = P.log.length
  road : ∀ k, k ≤ P.log.length → runs (S.chs.take k) (dn S.syn) = mp ρ (pruns (P.log.take k) P.old)
  fil : ∀ i x, P.fil[i]? = some x → S.fil (ρ i) = some x
  inj : ∀ i j, i < P.fil.length → j < P.fil.length → ρ i = ρ j → i = j
  ids : ∀ k, k ≤ P.log.length → ∀ p ∈ pruns (P.log.take k) P.old, p.2 < P.fil.length

section
variable {S : AD} {P : PD} {ρ : Nat → Nat}
theorem Link.now (h : Link S P ρ) (ok : S.ok) : dn S.now = mp ρ P.now := by
  have := h.road P.log.length (Nat.le_refl _)
  rw [List.take_length, ← h.len, List.take_length, ok.road] at this
  exact this
theorem Link.idn (h : Link S P ρ) : ∀ p ∈ P.now, p.2 < P.fil.length := by
  have := h.ids P.log.length (Nat.le_refl _)
  rwa [List.take_length] at this
/-- What a name leads to. -/
theorem Link.look (h : Link S P ρ) (ok : S.ok) (s : ByteArray) {i : Nat} (hl : plook (kl s) P.now = some i) : (∀ z, (dn S.now).atKey (kl s) z = pt (ρ i)) ∧ ∃ x, P.fil[i]? = some x ∧ S.fil (ρ i) = some x := by
  rw [h.now ok]
  refine ⟨fun z => mp_at hl z, ?_⟩
  obtain ⟨p, hp, rfl, _⟩ := look_mem hl
  have hi := h.idn p hp
  exact ⟨P.fil[p.2], List.getElem?_eq_getElem hi, h.fil _ _ (List.getElem?_eq_getElem hi)⟩
theorem Link.has (h : Link S P ρ) (ok : S.ok) (s : ByteArray) : Maps.has (dn S.now) (kl s) = (plook (kl s) P.now).isSome := by rw [h.now ok, mp_has]
theorem Link.size (h : Link S P ρ) (ok : S.ok) : Maps.size S.now = P.now.length := by rw [← dn_sz ok.isn, h.now ok, mp_size]

/-- Which file a pointer is. -/
theorem Link.of_pt (h : Link S P ρ) (ok : S.ok) {s : ByteArray} {f : Nat} (hf : ∀ z, (dn S.now).atKey (kl s) z = pt f) : ∃ i, plook (kl s) P.now = some i ∧ f = ρ i := by
  cases e : plook (kl s) P.now with
  | none =>
    have h1 := hf no
    rw [h.now ok, mp_at_none e] at h1
    simp [no, pt] at h1
  | some i =>
    have h1 := hf no
    rw [h.now ok, mp_at e] at h1
    simp [pt] at h1
    exact ⟨i, rfl, h1.symm⟩

/-- One more change. -/
theorem Link.change (h : Link S P ρ) (ok : S.ok) {ρ' : Nat → Nat} (c : Ch) (pc : PC) {fil' : Nat → Option (List Int × Nat)} {pf : List (List Int × Nat)} (hρ : ∀ i, i < P.fil.length → ρ' i = ρ i) (hl : P.fil.length ≤ pf.length)
    (hrun : c.run (mp ρ P.now) = mp ρ' (pc.run P.now)) (hid : ∀ p ∈ pc.run P.now, p.2 < pf.length) (hfil : ∀ i x, pf[i]? = some x → fil' (ρ' i) = some x) (hinj : ∀ i j, i < pf.length → j < pf.length → ρ' i = ρ' j → i = j) :
    Link { S with now := c.run (dn S.now), chs := S.chs ++ [c], fil := fil', ops := S.ops + 1 } { P with log := P.log ++ [pc], fil := pf, n := P.n + 1 } ρ' := by
  have hlen := h.len
  refine ⟨by show S.ops + 1 = P.n + 1; rw [h.ops], by simp [hlen], fun k hk => ?_, hfil, hinj, fun k hk => ?_⟩
  · show runs ((S.chs ++ [c]).take k) (dn S.syn) = mp ρ' (pruns ((P.log ++ [pc]).take k) P.old)
    have hk2 : k ≤ P.log.length + 1 := by simpa using hk
    by_cases e : k ≤ P.log.length
    · rw [List.take_append_of_le_length (by omega), List.take_append_of_le_length e, h.road k e]
      exact mp_congr fun p hp => (hρ p.2 (h.ids k e p hp)).symm
    · rw [List.take_of_length_le (by simp; omega), List.take_of_length_le (by simp; omega), runs_snoc, pruns_snoc, ok.road, h.now ok]
      exact hrun
  · show ∀ p ∈ pruns ((P.log ++ [pc]).take k) P.old, p.2 < pf.length
    have hk2 : k ≤ P.log.length + 1 := by simpa using hk
    by_cases e : k ≤ P.log.length
    · rw [List.take_append_of_le_length e]
      exact fun p hp => Nat.lt_of_lt_of_le (h.ids k e p hp) hl
    · rw [List.take_of_length_le (by simp; omega), pruns_snoc]
      exact hid

/-- Other files. -/
theorem Link.files (h : Link S P ρ) {fil' : Nat → Option (List Int × Nat)} {pf : List (List Int × Nat)} (n : Int) (hl : P.fil.length = pf.length) (hfil : ∀ i x, pf[i]? = some x → fil' (ρ i) = some x) : Link { S with fil := fil', ops := n } { P with fil := pf, n := n } ρ :=
  ⟨rfl, h.len, h.road, hfil, fun i j hi hj => h.inj i j (by rw [hl]; exact hi) (by rw [hl]; exact hj), fun k hk p hp => by rw [← hl]; exact h.ids k hk p hp⟩

theorem Link.made (h : Link S P ρ) (ok : S.ok) (s : ByteArray) (f : Nat) (xs : List Int) (hf : S.fil f = none) : ∃ ρ', Link (S.made s f xs) { P with log := P.log ++ [.mk s P.fil.length], fil := P.fil ++ [(xs, 0)], n := P.n + 1 } ρ' := by
  obtain ⟨ρ', hr, hn⟩ : ∃ ρ' : Nat → Nat, (∀ i, i < P.fil.length → ρ' i = ρ i) ∧ ρ' P.fil.length = f := ⟨fun i => if i = P.fil.length then f else ρ i, fun i hi => if_neg (by omega), if_pos rfl⟩
  have hnf : ∀ i, i < P.fil.length → ρ i ≠ f := fun i hi e => by
    have := h.fil i _ (List.getElem?_eq_getElem hi)
    rw [e, hf] at this
    cases this
  refine ⟨ρ', h.change ok (.mk s f) (.mk s P.fil.length) hr (by simp) ?_ ?_ ?_ ?_⟩
  · show (mp ρ P.now).put (kl s) (pt f) = mp ρ' (pput (kl s) P.fil.length P.now)
    rw [← mp_put, hn, mp_congr fun p hp => (hr p.2 (h.idn p hp)).symm]
  · intro p hp
    rcases mem_put hp with rfl | hp
    · simp
    · have := h.idn p hp
      simp; omega
  · intro i x hx
    by_cases hi : i < P.fil.length
    · rw [List.getElem?_append_left hi] at hx
      rw [hr i hi, upd_other _ _ (hnf i hi)]
      exact h.fil i x hx
    · have hi2 : i = P.fil.length := by
        have := (List.getElem?_eq_some_iff.1 hx).1
        simp at this
        omega
      subst hi2
      simp at hx
      subst hx
      rw [hn, upd_same]
  · intro i j hi hj e
    simp only [List.length_append, List.length_cons, List.length_nil] at hi hj
    by_cases h1 : i = P.fil.length <;> by_cases h2 : j = P.fil.length
    · omega
    · rw [h1, hn, hr j (by omega)] at e
      exact absurd e.symm (hnf j (by omega))
    · rw [h2, hn, hr i (by omega)] at e
      exact absurd e (hnf i (by omega))
    · rw [hr i (by omega), hr j (by omega)] at e
      exact h.inj i j (by omega) (by omega) e

/-- A file is another one. -/
theorem Link.upd (h : Link S P ρ) {i : Nat} (hi : i < P.fil.length) (x : List Int × Nat) : ∀ j y, (P.fil.set i x)[j]? = some y → upd S.fil (ρ i) x (ρ j) = some y := by
  intro j y hy
  by_cases e : j = i
  · subst e
    rw [List.getElem?_set, if_pos rfl, if_pos hi] at hy
    rw [upd_same]
    exact hy
  · rw [List.getElem?_set, if_neg (Ne.symm e)] at hy
    have hj := (List.getElem?_eq_some_iff.1 hy).1
    rw [upd_other _ _ (fun e2 => e (h.inj j i hj hi e2))]
    exact h.fil j y hy

theorem Link.del (h : Link S P ρ) (ok : S.ok) (s : ByteArray) : Link (S.did (.del s)) { P with log := P.log ++ [.del s], n := P.n + 1 } ρ :=
  h.change ok (.del s) (.del s) (fun _ _ => rfl) (Nat.le_refl _) (mp_del _ _ _) (fun p hp => h.idn p (mem_del hp)) h.fil h.inj
theorem Link.ren (h : Link S P ρ) (ok : S.ok) (s t : ByteArray) {i : Nat} (hl : plook (kl s) P.now = some i) : Link (S.did (.ren s t)) { P with log := P.log ++ [.ren s t], n := P.n + 1 } ρ := by
  have er : (PC.ren s t).run P.now = pput (kl t) i (pdel (kl s) P.now) := by
    show (match plook (kl s) P.now with | some i => pput (kl t) i (pdel (kl s) P.now) | none => P.now) = _
    rw [hl]
  refine h.change ok (.ren s t) (.ren s t) (fun _ _ => rfl) (Nat.le_refl _) ?_ (fun p hp => ?_) h.fil h.inj
  · show ((mp ρ P.now).del (kl s)).put (kl t) ((mp ρ P.now).atKey (kl s) no) = mp ρ ((PC.ren s t).run P.now)
    rw [er, mp_at hl, mp_del, mp_put]
  · rw [er] at hp
    rcases mem_put hp with rfl | hp
    · obtain ⟨q, hq, rfl, _⟩ := look_mem hl
      exact h.idn q hq
    · exact h.idn p (mem_del hp)
theorem Link.dirSynced (h : Link S P ρ) (ok : S.ok) : Link S.dirSynced { P with old := P.now, log := [], n := P.n + 1 } ρ := by
  refine ⟨by show S.ops + 1 = P.n + 1; rw [h.ops], rfl, fun k hk => ?_, h.fil, h.inj, fun k hk p hp => ?_⟩
  · show runs (([] : List Ch).take k) (dn (dn S.now)) = mp ρ (pruns (([] : List PC).take k) P.now)
    rw [List.take_nil, List.take_nil, dn_id (dn_map ok.isn), show runs [] (dn S.now) = dn S.now from rfl, h.now ok]
    rfl
  · have : p ∈ P.now := by simpa [pruns] using hp
    exact h.idn p this
theorem Link.synced (h : Link S P ρ) {i : Nat} {x : List Int × Nat} (hi : P.fil[i]? = some x) : Link (S.synced (ρ i) x) { P with fil := P.fil.set i (x.1, x.1.length), n := P.n + 1 } ρ := by
  have hi2 := (List.getElem?_eq_some_iff.1 hi).1
  have := h.files (S := S) (P := P) (fil' := Go.Proofs.Ytolaagbdnchhiaa.upd S.fil (ρ i) (x.1, x.1.length)) (pf := P.fil.set i (x.1, x.1.length)) (P.n + 1) (by simp) (h.upd hi2 _)
  rw [← h.ops] at this
  have e : S.synced (ρ i) x = { S with fil := Go.Proofs.Ytolaagbdnchhiaa.upd S.fil (ρ i) (x.1, x.1.length), ops := S.ops + 1 } := rfl
  rw [e, ← h.ops]
  exact this
theorem Link.grown (h : Link S P ρ) {i : Nat} {x : List Int × Nat} (hi : P.fil[i]? = some x) (xs : List Int) : Link (S.grown (ρ i) x xs) { P with fil := P.fil.set i (x.1 ++ xs, x.2), n := P.n + 1 } ρ := by
  have hi2 := (List.getElem?_eq_some_iff.1 hi).1
  have := h.files (S := S) (P := P) (fil' := Go.Proofs.Ytolaagbdnchhiaa.upd S.fil (ρ i) (x.1 ++ xs, x.2)) (pf := P.fil.set i (x.1 ++ xs, x.2)) (P.n + 1) (by simp) (h.upd hi2 _)
  rw [← h.ops] at this
  rw [← h.ops]
  exact this
end
end Go.Proofs.Ytolaagbdnchhiaa
