/-
  Mr8: Rows by rising keys, without memory: what the document's puts come to, and what sorting the first rows comes to, is one.
-/
import Derived.Test.YtheidhkmmihjlaaYMr3
import Derived.Test.YtheidhkmmihjlaaYMr7
import Derived.Test.YtheidhkmmihjlaaCk0
import Derived.Lib.Bytealg
set_option linter.unusedVariables false
set_option linter.unusedSimpArgs false
namespace Go.Proofs.Ytheidhkmmihjlaa.ML

theorem bl_irr : ∀ a : List UInt8, Op.bytesLess a a = false
  | [] => rfl
  | a :: x => by
    unfold Op.bytesLess
    have h1 : ¬ a < a := UInt8.lt_irrefl a
    rw [bl_irr x]
    simp [h1]
theorem bl_tr : ∀ a b c : List UInt8, Op.bytesLess a b = true → Op.bytesLess b c = true → Op.bytesLess a c = true
  | _, _, [], _, h => by unfold Op.bytesLess at h; simp at h
  | _, [], _ :: _, h, _ => by unfold Op.bytesLess at h; simp at h
  | [], _ :: _, _ :: _, _, _ => rfl
  | a :: x, b :: y, c :: z, h1, h2 => by
    unfold Op.bytesLess at h1 h2 ⊢
    simp only [Bool.or_eq_true, Bool.and_eq_true, decide_eq_true_eq, beq_iff_eq] at h1 h2 ⊢
    rcases h1 with h1 | ⟨rfl, h1⟩
    · rcases h2 with h2 | ⟨rfl, h2⟩
      · exact .inl (UInt8.lt_trans h1 h2)
      · exact .inl h1
    · rcases h2 with h2 | ⟨rfl, h2⟩
      · exact .inl h2
      · exact .inr ⟨rfl, bl_tr x y z h1 h2⟩
theorem bl_tot : ∀ a b : List UInt8, Op.bytesLess a b = true ∨ a = b ∨ Op.bytesLess b a = true
  | [], [] => .inr (.inl rfl)
  | [], _ :: _ => .inl rfl
  | _ :: _, [] => .inr (.inr rfl)
  | a :: x, b :: y => by
    unfold Op.bytesLess
    simp only [Bool.or_eq_true, Bool.and_eq_true, decide_eq_true_eq, beq_iff_eq]
    rcases Nat.lt_trichotomy a.toNat b.toNat with h | h | h
    · exact .inl (.inl (UInt8.lt_iff_toNat_lt.2 h))
    · have e : a = b := UInt8.toNat_inj.1 h
      subst e
      rcases bl_tot x y with q | q | q
      · exact .inl (.inr ⟨rfl, q⟩)
      · exact .inr (.inl (by rw [q]))
      · exact .inr (.inr (.inr ⟨rfl, q⟩))
    · exact .inr (.inr (.inl (UInt8.lt_iff_toNat_lt.2 h)))
theorem cmp_less : ∀ a b : List UInt8, decide (Lib.compareBytes a b < 0) = Op.bytesLess a b
  | [], [] => rfl
  | [], _ :: _ => rfl
  | _ :: _, [] => rfl
  | a :: x, b :: y => by
    unfold Lib.compareBytes Op.bytesLess
    by_cases h1 : a < b
    · simp [h1]
    · by_cases h2 : b < a
      · have h3 : ¬ a = b := fun e => h1 (by rw [e] at h2; exact absurd h2 (UInt8.lt_irrefl _))
        simp [h1, h2, h3]
      · have h3 : a = b := by
          apply UInt8.toNat_inj.1
          have q1 : ¬ a.toNat < b.toNat := fun q => h1 (UInt8.lt_iff_toNat_lt.2 q)
          have q2 : ¬ b.toNat < a.toNat := fun q => h2 (UInt8.lt_iff_toNat_lt.2 q)
          omega
        rw [if_neg h1, if_neg h2, cmp_less x y]
        subst h3
        simp [h1]
theorem nl_irr (a : ByteArray) : nless a a = false := bl_irr _
theorem nl_tr {a b c : ByteArray} (h : nless a b = true) (k : nless b c = true) : nless a c = true := bl_tr _ _ _ h k
theorem nl_tot (a b : ByteArray) : nless a b = true ∨ a = b ∨ nless b a = true := by
  rcases bl_tot a.toList b.toList with h | h | h
  · exact .inl h
  · refine .inr (.inl ?_)
    rw [ByteArray.toList_eq, ByteArray.toList_eq] at h
    exact ByteArray.ext (Array.toList_inj.1 h)
  · exact .inr (.inr h)
theorem od : Ck.Od (fun a b : ByteArray => nless a b = true) := ⟨fun a h => (by rw [nl_irr] at h; cases h), fun _ _ _ h k => nl_tr h k, nl_tot⟩

/-- By rising keys. -/
abbrev Srt (l : List Ro) : Prop := Ck.Ris (fun a b : ByteArray => nless a b = true) Ro.k l
theorem tw_mem {α : Type} (p : α → Bool) {x : α} : ∀ l : List α, x ∈ l.takeWhile p → p x = true
  | [], h => by cases h
  | a :: l, h => by
    unfold List.takeWhile at h
    cases hp : p a with
    | false => rw [hp] at h; cases h
    | true =>
      rw [hp] at h
      rcases List.mem_cons.1 h with e | e
      · rw [e]; exact hp
      · exact tw_mem p l e
theorem hasK_iff {l : List Ro} {s : ByteArray} : hasK l s = true ↔ ∃ r ∈ l, r.k = s := by
  unfold hasK
  rw [List.any_eq_true]
  constructor
  · rintro ⟨r, h1, h2⟩; exact ⟨r, h1, by simpa using h2⟩
  · rintro ⟨r, h1, h2⟩; exact ⟨r, h1, by simpa using h2⟩
theorem mem_putD {l : List Ro} {r x : Ro} : x ∈ putD l r ↔ x ∈ l ∨ hasK l r.k = false ∧ x = r := by
  unfold putD
  cases h : hasK l r.k with
  | true => simp
  | false =>
    have e : x ∈ l ↔ x ∈ l.takeWhile (fun p => nless p.k r.k) ∨ x ∈ l.dropWhile (fun p => nless p.k r.k) := by
      rw [← List.mem_append, List.takeWhile_append_dropWhile]
    rw [e]
    simp
    constructor
    · rintro (q | q | q)
      · exact .inl (.inl q)
      · exact .inr q
      · exact .inl (.inr q)
    · rintro ((q | q) | q)
      · exact .inl q
      · exact .inr (.inr q)
      · exact .inr (.inl q)
theorem putD_srt {l : List Ro} (hl : Srt l) (r : Ro) : Srt (putD l r) := by
  unfold putD
  cases h : hasK l r.k with
  | true => exact hl
  | false =>
    have hno : ∀ x ∈ l, x.k ≠ r.k := fun x hx e => by
      have := hasK_iff.2 ⟨x, hx, e⟩
      rw [h] at this; cases this
    have hd : l.takeWhile (fun p => nless p.k r.k) ++ l.dropWhile (fun p => nless p.k r.k) = l := List.takeWhile_append_dropWhile
    have hl2 := hl
    unfold Srt Ck.Ris at hl2
    rw [← hd, List.pairwise_append] at hl2
    obtain ⟨h1, h2, h3⟩ := hl2
    have ht : ∀ x ∈ l.takeWhile (fun p => nless p.k r.k), nless x.k r.k = true := fun x hx => by
      exact tw_mem (fun p : Ro => nless p.k r.k) l hx
    have hdr : ∀ x ∈ l.dropWhile (fun p => nless p.k r.k), nless r.k x.k = true := fun x hx => by
      have hsub : x ∈ l := (List.dropWhile_sublist _).subset hx
      cases hq : l.dropWhile (fun p => nless p.k r.k) with
      | nil => rw [hq] at hx; cases hx
      | cons y ys =>
        have hy : nless y.k r.k = false := by
          have := List.head_dropWhile_not (fun p : Ro => nless p.k r.k) (l := l) (by rw [hq]; simp)
          simpa [hq] using this
        have hyl : y ∈ l := (List.dropWhile_sublist _).subset (by rw [hq]; exact List.mem_cons_self)
        have hry : nless r.k y.k = true := by
          rcases nl_tot r.k y.k with q | q | q
          · exact q
          · exact absurd q.symm (hno y hyl)
          · rw [hy] at q; cases q
        rw [hq] at hx h2
        rcases List.mem_cons.1 hx with e | e
        · rw [e]; exact hry
        · exact nl_tr hry ((List.pairwise_cons.1 h2).1 x e)
    unfold Srt Ck.Ris
    rw [if_neg (by simp)]
    rw [List.append_assoc, List.pairwise_append]
    refine ⟨h1, ?_, fun a ha b hb => ?_⟩
    · rw [List.singleton_append, List.pairwise_cons]
      exact ⟨hdr, h2⟩
    · rcases List.mem_append.1 hb with q | q
      · simp at q; rw [q]; exact ht a ha
      · exact nl_tr (ht a ha) (hdr b q)

theorem fold_is (L : List Ro) : Srt (L.foldl putD []) ∧ ∀ r, r ∈ L.foldl putD [] ↔ fstOf L r.k = some r := by
  have key : ∀ n, ∀ L : List Ro, L.length = n → Srt (L.foldl putD []) ∧ ∀ r, r ∈ L.foldl putD [] ↔ fstOf L r.k = some r := by
    intro n
    induction n with
    | zero =>
      intro L h
      have : L = [] := List.eq_nil_of_length_eq_zero h
      subst this
      exact ⟨List.Pairwise.nil, fun r => by simp [fstOf]⟩
    | succ n ih =>
      intro L h
      obtain ⟨M, x, rfl⟩ : ∃ M x, L = M ++ [x] := ⟨L.dropLast, L.getLast (by intro e; rw [e] at h; cases h), (List.dropLast_concat_getLast _).symm⟩
      have hM : M.length = n := by simpa using h
      obtain ⟨h1, h2⟩ := ih M hM
      rw [List.foldl_append]
      show Srt (putD (M.foldl putD []) x) ∧ _
      refine ⟨putD_srt h1 x, fun r => ?_⟩
      show r ∈ putD (M.foldl putD []) x ↔ _
      have hh : hasK (M.foldl putD []) x.k = (fstOf M x.k).isSome := by
        rw [Bool.eq_iff_iff, hasK_iff, Option.isSome_iff_exists]
        constructor
        · rintro ⟨y, hy, e⟩
          exact ⟨y, by rw [← e]; exact (h2 y).1 hy⟩
        · rintro ⟨y, hy⟩
          have e : y.k = x.k := by have := List.find?_some hy; simpa using this
          exact ⟨y, (h2 y).2 (by rw [e]; exact hy), e⟩
      rw [mem_putD, h2 r, fstOf_snoc, hh]
      by_cases q : x.k = r.k
      · rw [if_pos q, ← q]
        cases hq : fstOf M x.k with
        | none => simp [eq_comm]
        | some y => simp
      · rw [if_neg q, Option.or_none]
        constructor
        · rintro (e | ⟨_, e⟩)
          · exact e
          · exact absurd (by rw [e]) q
        · intro e; exact .inl e
  exact key _ L rfl

theorem rowsD_fold (a b : List Ro) (gone : List Gn) : rowsD a b gone = (b ++ a.filter fun r => !namedB gone r).foldl putD [] := by
  unfold rowsD
  rw [List.foldl_append]
/-- What the program makes is what the document says. -/
theorem rows_one {a b : List Ro} {gone : List Gn} {ys : List Ro} (hs : Srt ys) (h : ∀ r, r ∈ ys ↔ fstOf (b ++ a.filter fun r => !namedB gone r) r.k = some r) : ys = rowsD a b gone := by
  obtain ⟨h1, h2⟩ := fold_is (b ++ a.filter fun r => !namedB gone r)
  rw [rowsD_fold]
  exact Ck.Ris.eq od hs h1 (fun x => (h x).trans (h2 x).symm)
end Go.Proofs.Ytheidhkmmihjlaa.ML
