/-
  What holds of every disk without memory.
-/
import Derived.Test.YtolaagbdnchhiaaRN3
import Derived.Test.YtolaagbdnchhiaaCuts
set_option linter.unusedVariables false
set_option linter.unusedSimpArgs false
namespace Go.Proofs.Ytolaagbdnchhiaa
open Go.RowKit Go.Maps

abbrev Rise (D : PDir) : Prop := D.Pairwise fun p q => p.1.before q.1 = true
structure Dgood (D : PDir) (n : Nat) : Prop where
  rise : Rise D
  len : D.length ≤ 64
  all : ∀ p ∈ D, (∃ s, p.1 = kl s ∧ isName s = true) ∧ p.2 < n
theorem Dgood.txt {D : PDir} {n : Nat} (h : Dgood D n) : Txt D := fun p hp => by
  obtain ⟨⟨s, e, _⟩, _⟩ := h.all p hp
  exact ⟨s, e⟩
theorem Dgood.more {D : PDir} {n m : Nat} (h : Dgood D n) (hm : n ≤ m) : Dgood D m := ⟨h.rise, h.len, fun p hp => ⟨(h.all p hp).1, Nat.lt_of_lt_of_le (h.all p hp).2 hm⟩⟩
theorem dgood_nil (n : Nat) : Dgood [] n := ⟨List.Pairwise.nil, Nat.zero_le _, fun p hp => by cases hp⟩

theorem kl_total {s t : ByteArray} (h : s ≠ t) (hb : (kl s).before (kl t) = false) : (kl t).before (kl s) = true := by
  rw [before_kl] at hb ⊢
  unfold nless at hb ⊢
  have := less_tri t.toList s.toList (fun e => h (by rw [ByteArray.toList_eq, ByteArray.toList_eq] at e; exact (ByteArray.ext (Array.toList_inj.1 e)).symm))
  rw [this, hb]
  rfl
theorem pins_rise {s : ByteArray} {i : Nat} : ∀ {D : PDir}, Rise D → Txt D → (∀ p ∈ D, p.1 ≠ kl s) → Rise (pins (kl s) i D)
  | [], _, _, _ => List.pairwise_singleton _ _
  | y :: r, h, ht, hn => by
    obtain ⟨h1, h2⟩ := List.pairwise_cons.1 h
    unfold pins
    by_cases e : (kl s).before y.1 = true
    · rw [if_pos e]
      refine List.pairwise_cons.2 ⟨fun p hp => ?_, h⟩
      rcases List.mem_cons.1 hp with rfl | hp
      · exact e
      · exact WideShapes.before_trans e (h1 p hp)
    · rw [if_neg e]
      refine List.pairwise_cons.2 ⟨fun p hp => ?_, pins_rise h2 (fun q hq => ht q (by simp [hq])) (fun q hq => hn q (by simp [hq]))⟩
      rcases mem_ins hp with rfl | hp
      · obtain ⟨t, e2⟩ := ht y (by simp)
        have hne : s ≠ t := fun e3 => hn y (by simp) (by rw [e2, e3])
        rw [e2] at e ⊢
        exact kl_total hne (by simpa using e)
      · exact h1 p hp
theorem pins_len (k : Lit) (i : Nat) : ∀ D : PDir, (pins k i D).length = D.length + 1
  | [] => rfl
  | y :: r => by
    unfold pins
    split
    · rfl
    · simp [pins_len k i r]
theorem pdel_le (k : Lit) (D : PDir) : (pdel k D).length ≤ D.length := List.length_filter_le _ _
theorem pdel_ne {s : ByteArray} {D : PDir} : ∀ p ∈ pdel (kl s) D, p.1 ≠ kl s := fun p hp e => by
  have := (List.mem_filter.1 hp).2
  rw [e, same_kl] at this
  simp at this
theorem pdel_lt {k : Lit} {D : PDir} {i : Nat} (h : plook k D = some i) : (pdel k D).length + 1 ≤ D.length := by
  obtain ⟨p, hp, _, hk⟩ := look_mem h
  have : (D.filter fun p => !p.1.sameKey k).length < D.length := List.length_filter_lt_length_iff_exists.2 ⟨p, hp, by simp [hk]⟩
  exact this
theorem Dgood.del {D : PDir} {n : Nat} (h : Dgood D n) (k : Lit) : Dgood (pdel k D) n :=
  ⟨h.rise.filter _, Nat.le_trans (pdel_le k D) h.len, fun p hp => h.all p (mem_del hp)⟩
theorem Dgood.put {D : PDir} {n : Nat} (h : Dgood D n) {s : ByteArray} (hs : isName s = true) {i : Nat} (hi : i < n) (hl : (pdel (kl s) D).length < 64) : Dgood (pput (kl s) i D) n := by
  have hd := h.del (kl s)
  refine ⟨pins_rise hd.rise hd.txt pdel_ne, ?_, fun p hp => ?_⟩
  · unfold pput
    rw [pins_len]
    omega
  · rcases mem_put hp with rfl | hp
    · exact ⟨⟨s, rfl, hs⟩, hi⟩
    · exact h.all p hp
theorem name_some {s : ByteArray} (h : isName s = true) : s ≠ .empty := fun e => by
  have := (isName_size h).1
  rw [e] at this
  exact absurd this (by decide)

def PD.dir (P : PD) (k : Nat) : PDir := pruns (P.log.take k) P.old
structure PD.inv (P : PD) : Prop where
  lo : 0 ≤ P.n
  hi : P.n ≤ 65536
  few : (P.log.length : Int) ≤ P.n
  filn : (P.fil.length : Int) ≤ 64 + P.n
  dir : ∀ k, k ≤ P.log.length → Dgood (P.dir k) P.fil.length
  fit : ∀ (k : Nat) (c : PC), P.log[k]? = some c → c.fits (P.dir k)
  fil : ∀ (i : Nat) (x : List Int × Nat), P.fil[i]? = some x → Byt x.1 ∧ x.2 ≤ x.1.length ∧ x.1.length ≤ 262144

section
variable {P : PD}
theorem PD.dir_now (P : PD) : P.dir P.log.length = P.now := by
  unfold PD.dir PD.now
  rw [List.take_length]
theorem PD.inv.now (h : P.inv) : Dgood P.now P.fil.length := by
  have := h.dir P.log.length (Nat.le_refl _)
  rwa [P.dir_now] at this
theorem PD.inv.old (h : P.inv) : Dgood P.old P.fil.length := h.dir 0 (Nat.zero_le _)
theorem inv_new : PD.new.inv := by
  refine ⟨by decide, by decide, by decide, by decide, fun k hk => ?_, (fun k c hc => by cases hc), (fun i x hx => by cases hx)⟩
  have : k = 0 := by simpa [PD.new] using hk
  subst this
  exact dgood_nil _
theorem PD.inv.change (h : P.inv) (hn : P.n < 65536) {c : PC} (hc : c.fits P.now) {pf : List (List Int × Nat)} (hl : P.fil.length ≤ pf.length) (hl2 : pf.length ≤ P.fil.length + 1) (hg : Dgood (c.run P.now) pf.length) (hf : ∀ (i : Nat) (x : List Int × Nat), pf[i]? = some x → Byt x.1 ∧ x.2 ≤ x.1.length ∧ x.1.length ≤ 262144) :
    PD.inv { P with log := P.log ++ [c], fil := pf, n := P.n + 1 } := by
  have h1 := h.lo
  have h2 := h.few
  have h3 := h.filn
  have hd : ∀ k, k ≤ P.log.length → PD.dir { P with log := P.log ++ [c], fil := pf, n := P.n + 1 } k = P.dir k := fun k hk => by
    show pruns ((P.log ++ [c]).take k) P.old = pruns (P.log.take k) P.old
    rw [List.take_append_of_le_length hk]
  refine ⟨by show 0 ≤ P.n + 1; omega, by show P.n + 1 ≤ 65536; omega, by show ((P.log ++ [c]).length : Int) ≤ P.n + 1; simp; omega, by show (pf.length : Int) ≤ 64 + (P.n + 1); omega, fun k hk => ?_, fun k c' hk => ?_, hf⟩
  · by_cases e : k ≤ P.log.length
    · rw [hd k e]
      exact (h.dir k e).more hl
    · have hk2 : k ≤ (P.log ++ [c]).length := hk
      have e2 : k = P.log.length + 1 := by simp at hk2; omega
      show Dgood (pruns ((P.log ++ [c]).take k) P.old) pf.length
      rw [List.take_of_length_le (by simp; omega), pruns_snoc]
      exact hg
  · have hk' : (P.log ++ [c])[k]? = some c' := hk
    by_cases e : k < P.log.length
    · rw [List.getElem?_append_left e] at hk'
      rw [hd k (by omega)]
      exact h.fit k c' hk'
    · have hlt := (List.getElem?_eq_some_iff.1 hk').1
      have e2 : k = P.log.length := by simp at hlt; omega
      subst e2
      rw [List.getElem?_append_right (Nat.le_refl _)] at hk'
      simp at hk'
      subst hk'
      rw [hd _ (Nat.le_refl _), P.dir_now]
      exact hc
theorem PD.inv.files (h : P.inv) (hn : P.n < 65536) {pf : List (List Int × Nat)} (hl : pf.length = P.fil.length) (hf : ∀ (i : Nat) (x : List Int × Nat), pf[i]? = some x → Byt x.1 ∧ x.2 ≤ x.1.length ∧ x.1.length ≤ 262144) : PD.inv { P with fil := pf, n := P.n + 1 } := by
  have h1 := h.lo
  have h2 := h.few
  have h3 := h.filn
  refine ⟨by show 0 ≤ P.n + 1; omega, by show P.n + 1 ≤ 65536; omega, by show (P.log.length : Int) ≤ P.n + 1; omega, by show (pf.length : Int) ≤ 64 + (P.n + 1); omega, fun k hk => ?_, h.fit, hf⟩
  show Dgood (P.dir k) pf.length
  rw [hl]
  exact h.dir k hk
theorem set_all {α : Type} {l : List α} {i : Nat} {y : α} {Q : α → Prop} (h : ∀ (j : Nat) (x : α), l[j]? = some x → Q x) (hy : Q y) : ∀ (j : Nat) (x : α), (l.set i y)[j]? = some x → Q x := fun j x hx => by
  rw [List.getElem?_set] at hx
  split at hx
  · split at hx
    · cases hx; exact hy
    · cases hx
  · exact h j x hx
theorem PD.inv.at (h : P.inv) {s : ByteArray} {i : Nat} (hi : plook (kl s) P.now = some i) : P.fil[i]? = some (P.at i) ∧ Byt (P.at i).1 ∧ (P.at i).2 ≤ (P.at i).1.length ∧ (P.at i).1.length ≤ 262144 := by
  obtain ⟨p, hp, rfl, _⟩ := look_mem hi
  have hl := (h.now.all p hp).2
  have e := List.getElem?_eq_getElem hl
  have e2 : P.at p.2 = P.fil[p.2] := at_eq e
  rw [e2]
  exact ⟨e, h.fil _ _ e⟩
theorem inv_app (h : P.inv) (s : ByteArray) {xs : List Int} (hx : Byt xs) : (P.app s xs).2.inv := by
  unfold PD.app
  cases hn : isName s with
  | false => exact h
  | true =>
    rw [if_neg (by decide)]
    cases e : plook (kl s) P.now with
    | none =>
      show PD.inv (if _ then (_, _) else (_, _)).2
      split
      · exact h
      · rename_i hc
        refine h.change (by omega) (c := .mk s P.fil.length) (name_some hn) (by simp) (by simp) ((h.now.more (by simp)).put hn (by simp) (by have := pdel_le (kl s) P.now; omega)) fun i x hi => ?_
        by_cases hl : i < P.fil.length
        · rw [List.getElem?_append_left hl] at hi
          exact h.fil i x hi
        · rw [List.getElem?_append_right (by omega)] at hi
          have hlt := (List.getElem?_eq_some_iff.1 hi).1
          have e2 : i - P.fil.length = 0 := by simp at hlt; omega
          rw [e2] at hi
          simp at hi
          subst hi
          exact ⟨hx, Nat.zero_le _, by show xs.length ≤ 262144; omega⟩
    | some i =>
      show PD.inv (if _ then (_, _) else (_, _)).2
      split
      · exact h
      · rename_i hc
        obtain ⟨h1, h2, h3, h4⟩ := h.at e
        refine h.files (by omega) (by simp) (set_all (Q := fun (x : List Int × Nat) => Byt x.1 ∧ x.2 ≤ x.1.length ∧ x.1.length ≤ 262144) h.fil ⟨h2.append hx, ?_, ?_⟩)
        · show (P.at i).2 ≤ ((P.at i).1 ++ xs).length
          rw [List.length_append]; omega
        · show ((P.at i).1 ++ xs).length ≤ 262144
          rw [List.length_append]; omega
theorem pcode_zero {n : Bool} {q : Option Nat} {ops : Int} (h : pcode n q ops = 0) : n = true ∧ (∃ i, q = some i) ∧ ops < 65536 := by
  unfold pcode at h
  cases n with
  | false => simp at h
  | true =>
    cases q with
    | none => simp at h
    | some i =>
      refine ⟨rfl, ⟨i, rfl⟩, ?_⟩
      by_cases e : 65536 ≤ ops
      · simp [e] at h
      · omega
theorem inv_sync (h : P.inv) (s : ByteArray) : (P.sync s).2.inv := by
  unfold PD.sync
  split
  · rename_i hz
    obtain ⟨hn, ⟨i, hi⟩, hop⟩ := pcode_zero hz
    rw [hi]
    obtain ⟨h1, h2, h3, h4⟩ := h.at hi
    exact h.files hop (by simp) (set_all (Q := fun (x : List Int × Nat) => Byt x.1 ∧ x.2 ≤ x.1.length ∧ x.1.length ≤ 262144) h.fil ⟨h2, Nat.le_refl _, h4⟩)
  · exact h
theorem inv_del (h : P.inv) (s : ByteArray) : (P.del s).2.inv := by
  unfold PD.del
  split
  · rename_i hz
    obtain ⟨hn, ⟨i, hi⟩, hop⟩ := pcode_zero hz
    exact h.change hop (c := .del s) (name_some hn) (Nat.le_refl _) (Nat.le_succ _) (h.now.del _) h.fil
  · exact h
theorem inv_ren (h : P.inv) (s t : ByteArray) : (P.ren s t).2.inv := by
  unfold PD.ren
  split
  · rename_i hz
    obtain ⟨hn, ⟨i, hi⟩, hop⟩ := pcode_zero hz
    have hs : isName s = true := by cases e : isName s <;> simp_all
    have ht : isName t = true := by cases e : isName t <;> simp_all
    refine h.change hop (c := .ren s t) ⟨name_some hs, name_some ht, i, hi⟩ (Nat.le_refl _) (Nat.le_succ _) ?_ h.fil
    have er : (PC.ren s t).run P.now = pput (kl t) i (pdel (kl s) P.now) := by
      show (match plook (kl s) P.now with | some i => pput (kl t) i (pdel (kl s) P.now) | none => P.now) = _
      rw [hi]
    rw [er]
    obtain ⟨p, hp, rfl, _⟩ := look_mem hi
    refine (h.now.del _).put ht (h.now.all p hp).2 ?_
    have h1 := pdel_le (kl t) (pdel (kl s) P.now)
    have h2 := pdel_lt hi
    have h3 := h.now.len
    omega
  · exact h
theorem inv_syncDir (h : P.inv) : P.syncDir.2.inv := by
  unfold PD.syncDir
  split
  · exact h
  · rename_i hc
    have h1 := h.lo
    have h3 := h.filn
    refine ⟨by show 0 ≤ P.n + 1; omega, by show P.n + 1 ≤ 65536; omega, by show ((0 : Nat) : Int) ≤ P.n + 1; omega, by show (P.fil.length : Int) ≤ 64 + (P.n + 1); omega, fun k hk => ?_, (fun k c hk => by cases hk), h.fil⟩
    have : k = 0 := by simpa using hk
    subst this
    exact h.now
end
end Go.Proofs.Ytolaagbdnchhiaa
