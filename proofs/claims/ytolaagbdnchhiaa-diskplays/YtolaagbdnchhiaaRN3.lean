/-
  The document's rows of names and the rows without memory; changed.
-/
import Derived.Test.YtolaagbdnchhiaaRN2
set_option linter.unusedVariables false
set_option linter.unusedSimpArgs false
namespace Go.Proofs.Ytolaagbdnchhiaa
open Go.RowKit Go.Maps

theorem before_less : ∀ x y : List UInt8, bytesBefore x y = Op.bytesLess x y
  | [], [] => rfl
  | [], _ :: _ => rfl
  | _ :: _, [] => rfl
  | a :: x, b :: y => by
    show (decide (a < b) || (a == b && bytesBefore x y)) = (decide (a < b) || (a == b && Op.bytesLess x y))
    rw [before_less x y]
theorem less_tri : ∀ x y : List UInt8, x ≠ y → Op.bytesLess x y = !Op.bytesLess y x
  | [], [], h => absurd rfl h
  | [], _ :: _, _ => rfl
  | _ :: _, [], _ => rfl
  | a :: x, b :: y, h => by
    show (decide (a < b) || (a == b && Op.bytesLess x y)) = !(decide (b < a) || (b == a && Op.bytesLess y x))
    by_cases e : a = b
    · subst e
      have hn : x ≠ y := fun e => h (by rw [e])
      have := less_tri x y hn
      simp [this]
    · have e2 : b ≠ a := fun e3 => e e3.symm
      have h1 : (a == b) = false := by simpa using e
      have h2 : (b == a) = false := by simpa using e2
      rw [h1, h2]
      simp only [Bool.false_and, Bool.or_false]
      by_cases hlt : a < b
      · have : ¬ b < a := fun h3 => absurd (UInt8.lt_trans hlt h3) (UInt8.lt_irrefl a)
        simp [hlt, this]
      · have : b < a := by
          rcases UInt8.lt_or_eq_of_le (UInt8.not_lt.1 hlt) with h3 | h3
          · exact h3
          · exact absurd h3.symm e
        simp [hlt, this]

/-- A key's text. -/
def ks : Lit → ByteArray
  | .string b => ⟨b.toArray⟩
  | _ => .empty
theorem ks_kl (s : ByteArray) : ks (kl s) = s := rfl
/-- All keys are texts. -/
def Txt (D : PDir) : Prop := ∀ p ∈ D, ∃ s, p.1 = kl s
/-- The document's row. -/
def nl (D : PDir) : NL := D.map fun p => (ks p.1, (p.2 : Int))

theorem same_kl (s t : ByteArray) : (kl s).sameKey (kl t) = decide (s = t) := by
  show (s.data.toList == t.data.toList) = _
  rw [← ByteArray.toList_eq, ← ByteArray.toList_eq]
  exact str_test s t
theorem before_kl (s t : ByteArray) : (kl s).before (kl t) = nless s t := by
  show bytesBefore s.data.toList t.data.toList = Op.bytesLess s.toList t.toList
  rw [before_less, ByteArray.toList_eq, ByteArray.toList_eq]

theorem nl_len (D : PDir) : (nl D).length = D.length := by simp [nl]
theorem Txt.del {D : PDir} (h : Txt D) (k : Lit) : Txt (pdel k D) := fun p hp => h p (mem_del hp)
theorem Txt.put {D : PDir} (h : Txt D) (s : ByteArray) (i : Nat) : Txt (pput (kl s) i D) := fun p hp => by
  rcases mem_put hp with rfl | hp
  · exact ⟨s, rfl⟩
  · exact h p hp
theorem nl_find {D : PDir} (h : Txt D) (s : ByteArray) : nfind (nl D) s = match plook (kl s) D with | some i => (i : Int) | none => -1 := by
  induction D with
  | nil => rfl
  | cons p D ih =>
    obtain ⟨t, ht⟩ := h p (by simp)
    have ih := ih (fun q hq => h q (by simp [hq]))
    have e1 : p.1.sameKey (kl s) = decide (t = s) := by rw [ht, same_kl]
    have e2 : ks p.1 = t := by rw [ht, ks_kl]
    by_cases e : t = s
    · unfold nfind plook
      simp [nl, e1, e2, e]
    · have a1 : nfind (nl (p :: D)) s = nfind (nl D) s := by
        unfold nfind
        simp [nl, e2, e]
      have a2 : plook (kl s) (p :: D) = plook (kl s) D := by
        unfold plook
        simp [e1, e]
      rw [a1, a2, ih]
theorem nl_without {D : PDir} (h : Txt D) (s : ByteArray) : nwithout (nl D) s = nl (pdel (kl s) D) := by
  unfold nwithout nl pdel
  rw [List.filter_map]
  congr 1
  apply List.filter_congr
  intro p hp
  obtain ⟨t, ht⟩ := h p hp
  show (!decide (ks p.1 = s)) = !p.1.sameKey (kl s)
  rw [ht, same_kl, ks_kl]
theorem nl_ins {s : ByteArray} {i : Nat} : ∀ {D : PDir}, Txt D → (∀ p ∈ D, p.1 ≠ kl s) → (nl D).takeWhile (fun p => nless p.1 s) ++ [(s, (i : Int))] ++ (nl D).dropWhile (fun p => nless p.1 s) = nl (pins (kl s) i D)
  | [], _, _ => rfl
  | p :: D, h, hn => by
    obtain ⟨t, ht⟩ := h p (by simp)
    have ih := nl_ins (s := s) (i := i) (D := D) (fun q hq => h q (by simp [hq])) (fun q hq => hn q (by simp [hq]))
    have hts : t ≠ s := fun e => hn p (by simp) (by rw [ht, e])
    have e2 : ks p.1 = t := by rw [ht, ks_kl]
    have e3 : (kl s).before p.1 = !nless t s := by
      rw [ht, before_kl]
      unfold nless
      exact less_tri _ _ (fun e => hts (by rw [ByteArray.toList_eq, ByteArray.toList_eq] at e; exact (ByteArray.ext (Array.toList_inj.1 e)).symm))
    unfold pins
    cases e : nless t s with
    | true =>
      rw [if_neg (by rw [e3, e]; decide)]
      have a1 : nl (p :: D) = (t, (p.2 : Int)) :: nl D := by simp [nl, e2]
      have a2 : nl (p :: pins (kl s) i D) = (t, (p.2 : Int)) :: nl (pins (kl s) i D) := by simp [nl, e2]
      rw [a1, a2, ← ih]
      simp [List.takeWhile, List.dropWhile, e]
    | false =>
      rw [if_pos (by rw [e3, e]; rfl)]
      have a1 : nl (p :: D) = (t, (p.2 : Int)) :: nl D := by simp [nl, e2]
      have a2 : nl ((kl s, i) :: p :: D) = (s, (i : Int)) :: (t, (p.2 : Int)) :: nl D := by simp [nl, e2, ks_kl]
      rw [a1, a2]
      simp [List.takeWhile, List.dropWhile, e]
theorem nl_with {D : PDir} (h : Txt D) (s : ByteArray) (i : Nat) : nwith (nl D) s (i : Int) = nl (pput (kl s) i D) := by
  unfold nwith
  rw [nl_without h]
  exact nl_ins (h.del _) (fun p hp e => by
    have := (List.mem_filter.1 hp).2
    rw [e, same_kl] at this
    simp at this)

theorem emp_no {s : ByteArray} (h : s ≠ .empty) : (s.toList == ByteArray.empty.toList) = false ∧ (s.toList == []) = false ∧ ¬ s.toList = [] ∧ s.toList.isEmpty = false ∧ (s.data.toList == []) = false := by
  have h1 : ¬ s.toList = [] := fun e => h (by
    rw [ByteArray.toList_eq] at e
    exact ByteArray.ext (Array.toList_inj.1 e))
  refine ⟨?_, by simpa using h1, h1, by simpa using h1, ?_⟩
  · rw [str_test]; simpa using h
  · rw [ByteArray.toList_eq] at h1; simpa using h1
/-- A change, as the document writes it. -/
def chV : PC → Value
  | .mk s i => .agg #[.string .empty, .string s, .int .i64 (i : Int)]
  | .del s => .agg #[.string s, .string .empty, .int .i64 0]
  | .ren s t => .agg #[.string s, .string t, .int .i64 0]
/-- The names of a change are some. -/
def PC.named : PC → Prop
  | .mk s _ => s ≠ .empty
  | .del s => s ≠ .empty
  | .ren s t => s ≠ .empty ∧ t ≠ .empty
def chC : PC → List Value
  | .mk s i => [.string .empty, .string s, .int .i64 (i : Int)]
  | .del s => [.string s, .string .empty, .int .i64 0]
  | .ren s t => [.string s, .string t, .int .i64 0]

theorem txt_run {D : PDir} (h : Txt D) (c : PC) : Txt (c.run D) := by
  cases c with
  | mk s i => exact h.put s i
  | del s => exact h.del _
  | ren s t =>
    show Txt (match plook (kl s) D with | some i => pput (kl t) i (pdel (kl s) D) | none => D)
    cases plook (kl s) D with
    | some i => exact (h.del _).put t _
    | none => exact h

set_option maxRecDepth 100000 in
set_option maxHeartbeats 2000000 in
theorem changed_mk {w : World} {B : Nat} {v : Value} {D : PDir} (h : Nr w B v (nl D)) (hD : Txt D) (hl : D.length ≤ 100000) (s : ByteArray) (i : Nat) (hs : s ≠ .empty) :
    Calls Try.prog 62 #[v, chV (.mk s i)] w fun e w' => ∃ v', e = .returned v' ∧ Nr w' w.heap.size v' (nl ((PC.mk s i).run D)) ∧ Below w.heap.size w w' := by
  have hb : Below w.heap.size w (w.alloc (.cells #[.string .empty, .string s, .int .i64 (i : Int)] 98)) := (Below.refl _ _).alloc (Nat.le_refl _) _
  have h1 : Nr (w.alloc (.cells #[.string .empty, .string s, .int .i64 (i : Int)] 98)) B v (nl D) := World.ownsRow.alloc h _
  have hw := with_ref h1 (by rw [nl_len]; exact hl) s (i : Int)
  rw [nl_with hD] at hw
  have HW := hide2 hw
  have HB := hide2 hb
  clear hw h1 h hb
  unfold chV
  go_enter Try.func62, Try.ntmps62
  go_wp2_with fail
  refine HW.out.mono ?_
  rintro e w2 ⟨v', rfl, hn, hb2⟩
  clear HW
  go_wp2
  go_ret
  exact ⟨_, rfl, Go.Joins.ownsRow_le hn (by simp), HB.out.trans (hb2.mono (by simp))⟩

set_option maxRecDepth 100000 in
set_option maxHeartbeats 2000000 in
theorem changed_del {w : World} {B : Nat} {v : Value} {D : PDir} (h : Nr w B v (nl D)) (hD : Txt D) (hl : D.length ≤ 100000) (s : ByteArray) (hs : s ≠ .empty) :
    Calls Try.prog 62 #[v, chV (.del s)] w fun e w' => ∃ v', e = .returned v' ∧ Nr w' w.heap.size v' (nl ((PC.del s).run D)) ∧ Below w.heap.size w w' := by
  have hb : Below w.heap.size w (w.alloc (.cells #[.string s, .string .empty, .int .i64 0] 98)) := (Below.refl _ _).alloc (Nat.le_refl _) _
  have h1 : Nr (w.alloc (.cells #[.string s, .string .empty, .int .i64 0] 98)) B v (nl D) := World.ownsRow.alloc h _
  have hw := without_ref h1 (by rw [nl_len]; exact hl) s
  rw [nl_without hD] at hw
  have HW := hide2 hw
  have HB := hide2 hb
  have t0 := emp_no hs
  obtain ⟨t1, t1', t1'', t1''', t1q⟩ := t0
  clear hw h1 h hb
  unfold chV
  go_enter Try.func62, Try.ntmps62
  go_wp2_with fail
  refine HW.out.mono ?_
  rintro e w2 ⟨v', rfl, hn, hb2⟩
  clear HW
  go_wp2
  go_ret
  exact ⟨_, rfl, Go.Joins.ownsRow_le hn (by simp), HB.out.trans (hb2.mono (by simp))⟩

set_option maxRecDepth 100000 in
set_option maxHeartbeats 2000000 in
theorem changed_ren {w : World} {B : Nat} {v : Value} {D : PDir} (h : Nr w B v (nl D)) (hD : Txt D) (hl : D.length ≤ 100000) (s t : ByteArray) (hs : s ≠ .empty) (ht : t ≠ .empty) (i : Nat) (hi : plook (kl s) D = some i) :
    Calls Try.prog 62 #[v, chV (.ren s t)] w fun e w' => ∃ v', e = .returned v' ∧ Nr w' w.heap.size v' (nl ((PC.ren s t).run D)) ∧ Below w.heap.size w w' := by
  have er : (PC.ren s t).run D = pput (kl t) i (pdel (kl s) D) := by
    show (match plook (kl s) D with | some i => pput (kl t) i (pdel (kl s) D) | none => D) = _
    rw [hi]
  rw [er]
  have hb : Below w.heap.size w (w.alloc (.cells #[.string s, .string t, .int .i64 0] 98)) := (Below.refl _ _).alloc (Nat.le_refl _) _
  have h1 : Nr (w.alloc (.cells #[.string s, .string t, .int .i64 0] 98)) B v (nl D) := World.ownsRow.alloc h _
  have hf := find_ref h1 (by rw [nl_len]; exact hl) s
  rw [nl_find hD, hi] at hf
  have hq : ∀ q, Nr ((w.alloc (.cells #[.string s, .string t, .int .i64 0] 98)).drewN q) B v (nl D) := fun q => h1
  have hw : ∀ q, Calls Try.prog 71 #[v, .string s] ((w.alloc (.cells #[.string s, .string t, .int .i64 0] 98)).drewN q) fun e w' => ∃ v', e = .returned v' ∧ Nr w' (w.heap.size + 1) v' (nl (pdel (kl s) D)) ∧ Below (w.heap.size + 1) ((w.alloc (.cells #[.string s, .string t, .int .i64 0] 98)).drewN q) w' := fun q => by
    have := without_ref (hq q) (by rw [nl_len]; exact hl) s
    rw [nl_without hD] at this
    simpa using this
  have HW := hide2 hw
  have HF := hide2 hf
  have HB := hide2 hb
  have hDD := hD.del (kl s)
  have hdl : (nl (pdel (kl s) D)).length ≤ 100000 := by rw [nl_len]; exact Nat.le_trans (List.length_filter_le _ _) hl
  have t0 := emp_no hs
  obtain ⟨t1, t1', t1'', t1''', t1q⟩ := t0
  have t0 := emp_no ht
  obtain ⟨t2, t2', t2'', t2''', t2q⟩ := t0
  clear hw h1 h hb hf hq er
  unfold chV
  go_enter Try.func62, Try.ntmps62
  go_wp2_with fail
  refine HF.out.mono ?_
  rintro e w2 ⟨rfl, rfl⟩
  clear HF
  have hW1 : Calls Try.prog 71 #[v, .string s] (w.alloc (.cells #[.string s, .string t, .int .i64 0] 98)).drew fun e w' => ∃ v', e = .returned v' ∧ Nr w' (w.heap.size + 1) v' (nl (pdel (kl s) D)) ∧ Below (w.heap.size + 1) (w.alloc (.cells #[.string s, .string t, .int .i64 0] 98)).drew w' := HW.out 1
  have HW1 := hide2 hW1
  clear hW1 HW
  go_wp2
  go_region_with (first
    | (go_at_call 71; refine HW1.out.mono ?_; rintro e w2 ⟨v2, rfl, hn2, hb2⟩; have y1 : w2.cell? ⟨w.heap.size, 1, none⟩ = some (.string t) := (hb2.cell (p := ⟨w.heap.size, 1, none⟩) (Nat.lt_succ_self _)).trans (by go_simp); have s2 := hb2.size)
    | (go_at_call 70; refine (with_ref hn2 hdl t (i : Int)).mono ?_; rintro e w3 ⟨v3, rfl, hn3, hb3⟩))
  all_goals
    have hBa : Below w.heap.size w w2 := Below.trans (show Below w.heap.size w (w.alloc (.cells #[.string s, .string t, .int .i64 0] 98)).drew from ⟨HB.out.os, HB.out.tape, HB.out.output, HB.out.size, HB.out.block⟩) (hb2.mono (Nat.le_succ _))
    have hBb : Below w.heap.size w w3 := hBa.trans (hb3.mono hBa.size)
    have hn4 : Nr w3 w.heap.size v3 (nl (pput (kl t) i (pdel (kl s) D))) := by
      rw [nl_with hDD] at hn3
      exact Go.Joins.ownsRow_le hn3 hBa.size
    clear hn3 hn2 hb2 hb3 y1 HW1
    go_wp2
    go_ret
    exact ⟨_, rfl, hn4, hBb⟩

/-- A change that fits. -/
def PC.fits (D : PDir) : PC → Prop
  | .mk s _ => s ≠ .empty
  | .del s => s ≠ .empty
  | .ren s t => s ≠ .empty ∧ t ≠ .empty ∧ ∃ i, plook (kl s) D = some i
theorem changed_ref {w : World} {B : Nat} {v : Value} {D : PDir} (h : Nr w B v (nl D)) (hD : Txt D) (hl : D.length ≤ 100000) (c : PC) (hc : c.fits D) :
    Calls Try.prog 62 #[v, chV c] w fun e w' => ∃ v', e = .returned v' ∧ Nr w' w.heap.size v' (nl (c.run D)) ∧ Below w.heap.size w w' := by
  cases c with
  | mk s i => exact changed_mk h hD hl s i hc
  | del s => exact changed_del h hD hl s hc
  | ren s t =>
    obtain ⟨h1, h2, i, hi⟩ := hc
    exact changed_ren h hD hl s t h1 h2 i hi
end Go.Proofs.Ytolaagbdnchhiaa
