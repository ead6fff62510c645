/-
  Facts on the segments of a disk, and on what reading leaves. No program in sight.
-/
import Derived.Test.YthfcjfhaoabdeaaGreatDoorRz51
import Derived.Lib.AtoiBound
import Derived.Lib.ItoaLen
set_option linter.unusedVariables false
set_option linter.unusedSimpArgs false
namespace Go.Proofs.YthfcjfhaoabdeaaGreatDoor
open Go.RowKit Go.Maps

theorem trimB_le (s : ByteArray) : (trimB s).size ≤ s.size := by
  unfold trimB
  split
  · rw [ByteArray.size_extract]; omega
  · exact Nat.le_refl _
theorem segOf_some {s : ByteArray} {n : Int} (h : segOf s = some n) (hs : s.size ≤ 18) : 1 ≤ n ∧ nm8 n = s ∧ n < 1000000000000000000 := by
  unfold segOf at h
  split at h
  · cases h
  · rename_i m hm
    split at h
    · rename_i hc
      simp only [Option.some.injEq] at h
      subst h
      have := Lib.atoi_bound hm (by
        have e : (trimB s).data.toList.length = (trimB s).size := by rw [Array.length_toList]; rfl
        have := trimB_le s
        omega)
      exact ⟨hc.1, hc.2, this.2⟩
    · cases h
theorem dnames_size {P : PD} (hP : P.inv) : ∀ s ∈ Land.dnames P.now, s.size ≤ 16 := fun s hs => by
  obtain ⟨p, hp, rfl⟩ := List.mem_map.1 hs
  obtain ⟨⟨t, et, hn⟩, _⟩ := hP.now.all p hp
  rw [et, ks_kl]
  exact (isName_size hn).2
theorem segs_mem {P : PD} (hP : P.inv) {n : Int} (h : n ∈ segs P) : 1 ≤ n ∧ nm8 n ∈ Land.dnames P.now ∧ n < 1000000000000000000 := by
  obtain ⟨s, hs, e⟩ := List.mem_filterMap.1 h
  obtain ⟨h1, h2, h3⟩ := segOf_some e (Nat.le_trans (dnames_size hP s hs) (by omega))
  exact ⟨h1, by rw [h2]; exact hs, h3⟩
theorem segs_len {P : PD} (hP : P.inv) : (segs P).length ≤ 64 := by
  have h1 : (segs P).length ≤ (Land.dnames P.now).length := List.length_filterMap_le _ _
  have h2 : (Land.dnames P.now).length = P.now.length := by simp [Land.dnames]
  have h3 := hP.now.len
  omega
/-- A name that is there leads to a file. -/
theorem look_name {P : PD} (hP : P.inv) {s : ByteArray} (h : s ∈ Land.dnames P.now) : isName s = true ∧ ∃ i, plook (kl s) P.now = some i := by
  obtain ⟨p, hp, rfl⟩ := List.mem_map.1 h
  obtain ⟨⟨t, et, hn⟩, _⟩ := hP.now.all p hp
  obtain ⟨i, hi⟩ := List.getElem?_of_mem hp
  have := Land.look_at hP.now.rise hP.now.txt hi
  rw [et] at this
  rw [et, ks_kl]
  exact ⟨hn, _, this⟩
theorem read_name {P : PD} (hP : P.inv) {s : ByteArray} (h : s ∈ Land.dnames P.now) : (Land.pread P s).1 = 0 ∧ Byt (Land.pread P s).2 ∧ (Land.pread P s).2.length ≤ 262144 := by
  obtain ⟨h1, i, h2⟩ := look_name hP h
  have h3 := hP.at h2
  unfold Land.pread
  rw [if_neg (by simp [h1]), h2]
  exact ⟨rfl, h3.2.1, h3.2.2.2⟩
theorem pread_code (P : PD) (s : ByteArray) : (Land.pread P s).1 ≠ 24 := by
  unfold Land.pread
  split
  · decide
  · split <;> simp
/-- What a segment adds to a reader. -/
theorem segR_more {xs : List Int} {n : Int} {R R' : Rdr} (hx : Byt xs) (hl : xs.length ≤ 262144) (hR : R.next < 18446744073709551616) (h : SegR xs n R (some R')) : R'.next < 18446744073709551616 ∧ R'.cs.length ≤ R.cs.length + 10000 := by
  rcases h with ⟨q, -, -, e⟩ | ⟨h0, bs, a, f, hg, hst, ⟨-, e⟩ | ⟨-, e⟩⟩
  · cases e
  · cases e
  · have hnx : R.nx xs < 18446744073709551616 := by
      unfold Rdr.nx
      split
      · exact hR
      · split
        · rename_i q hq
          have : takA xs 0 = some (q.1, q.2) := hq
          unfold takA at this
          split at this
          · unfold tak at this
            split at this
            · simp only [Option.some.injEq, Prod.mk.injEq] at this
              rw [← this.1]
              exact seqOf_lt (hx.drop _)
            · cases this
          · cases this
        · exact hR
    have hb := goes_le hx bs 0 _ a f hg (Nat.zero_le _) rfl hnx
    cases bs with
    | nil =>
      simp only [seg2, Option.some.injEq] at e
      subst e
      exact ⟨hnx, by show R.cs.length ≤ _; omega⟩
    | cons b r =>
      simp only [seg2] at e
      split at e
      · cases hc : coms r with
        | none => rw [hc] at e; cases e
        | some k =>
          rw [hc] at e
          simp only [Option.map_some, Option.some.injEq] at e
          subst e
          have := coms_len hc
          simp only [List.length_cons] at hb
          exact ⟨Nat.mod_lt _ (by decide), by show (R.cs ++ k).length ≤ _; rw [List.length_append]; omega⟩
      · cases e
/-- How many segments are from a number on. -/
def upTo (ns : List Int) (n : Int) : Nat := (ns.filter fun k => decide (n ≤ k)).length
theorem upTo_le (ns : List Int) (n : Int) : upTo ns n ≤ ns.length := List.length_filter_le _ _
theorem upTo_next : ∀ (ns : List Int) (n : Int), n ∈ ns → upTo ns (n + 1) + 1 ≤ upTo ns n
  | [], n, h => by cases h
  | x :: ns, n, h => by
    have mono : ∀ (l : List Int), upTo l (n + 1) ≤ upTo l n := fun l => by
      induction l with
      | nil => exact Nat.le_refl _
      | cons y l ih =>
        unfold upTo at ih ⊢
        simp only [List.filter_cons]
        by_cases h1 : n + 1 ≤ y
        · rw [if_pos (by simpa using h1), if_pos (by simp; omega)]
          simp only [List.length_cons]
          omega
        · rw [if_neg (by simpa using h1)]
          split
          · simp only [List.length_cons]; omega
          · exact ih
    have m := mono ns
    rcases List.mem_cons.1 h with rfl | h
    · unfold upTo at m ⊢
      simp only [List.filter_cons]
      rw [if_neg (by simp; omega), if_pos (by simp)]
      simp only [List.length_cons]
      omega
    · have ih := upTo_next ns n h
      unfold upTo at ih ⊢
      simp only [List.filter_cons]
      by_cases h1 : n + 1 ≤ x
      · rw [if_pos (by simpa using h1), if_pos (by simp; omega)]
        simp only [List.length_cons]
        omega
      · rw [if_neg (by simpa using h1)]
        split
        · simp only [List.length_cons]; omega
        · exact ih
end Go.Proofs.YthfcjfhaoabdeaaGreatDoor

/-
  Names of segments: which number a name tells; each is a name of a file. No program in sight.
-/
set_option linter.unusedVariables false
set_option linter.unusedSimpArgs false
namespace Go.Proofs.YthfcjfhaoabdeaaGreatDoor
open Go.RowKit Go.Maps

theorem decFrom_snoc : ∀ (l : List UInt8) (acc n : Nat) (b : UInt8) (d : Nat), Lib.decFrom acc l = some n → Lib.digitVal b = some d → Lib.decFrom acc (l ++ [b]) = some (n * 10 + d)
  | [], acc, n, b, d, h, hd => by
    simp only [Lib.decFrom, Option.some.injEq] at h
    subst h
    simp [Lib.decFrom, hd]
  | x :: l, acc, n, b, d, h, hd => by
    simp only [List.cons_append, Lib.decFrom] at h ⊢
    cases hx : Lib.digitVal x with
    | none => rw [hx] at h; cases h
    | some y =>
      rw [hx] at h
      simp only at h ⊢
      exact decFrom_snoc l _ n b d h hd
theorem digit_of (i : Nat) (h : i < 10) : Lib.digitVal (UInt8.ofNat (48 + i)) = some i := by
  have : ∀ j : Fin 10, Lib.digitVal (UInt8.ofNat (48 + j.val)) = some j.val := by decide
  exact this ⟨i, h⟩
theorem decFrom_dec (u : Nat) : Lib.decFrom 0 (Lib.decDigits u) = some u := by
  induction u using Nat.strongRecOn with
  | _ u ih =>
    rw [Lib.decDigits]
    split
    · rename_i h
      show Lib.decFrom 0 [UInt8.ofNat (48 + u)] = some u
      have := decFrom_snoc [] 0 0 _ _ rfl (digit_of u h)
      simpa using this
    · rename_i h
      have h1 := ih (u / 10) (by omega)
      have := decFrom_snoc _ 0 _ _ _ h1 (digit_of (u % 10) (by omega))
      rw [show u / 10 * 10 + u % 10 = u from by omega] at this
      exact this
theorem dec_digits (u : Nat) : ∀ b ∈ Lib.decDigits u, 48 ≤ b.toNat ∧ b.toNat ≤ 57 := by
  have hd : ∀ i, i < 10 → 48 ≤ (UInt8.ofNat (48 + i)).toNat ∧ (UInt8.ofNat (48 + i)).toNat ≤ 57 := fun i h => by
    have : ∀ j : Fin 10, 48 ≤ (UInt8.ofNat (48 + j.val)).toNat ∧ (UInt8.ofNat (48 + j.val)).toNat ≤ 57 := by decide
    exact this ⟨i, h⟩
  induction u using Nat.strongRecOn with
  | _ u ih =>
    intro b hb
    rw [Lib.decDigits] at hb
    split at hb
    · rename_i h
      simp only [List.mem_singleton] at hb
      subst hb
      exact hd u h
    · rename_i h
      rcases List.mem_append.1 hb with hb | hb
      · exact ih (u / 10) (by omega) b hb
      · simp only [List.mem_singleton] at hb
        subst hb
        exact hd _ (by omega)
theorem dec_len_le {u : Nat} (k : Nat) (h : u < 10 ^ (k + 1)) : (Lib.decDigits u).length ≤ k + 1 := by
  rw [Lib.decDigits_length]
  induction k generalizing u with
  | zero => rw [Lib.nDigits_small (by simpa using h)]; omega
  | succ k ih =>
    by_cases h10 : u < 10
    · rw [Lib.nDigits_small h10]; omega
    · rw [Lib.nDigits_big h10]
      have : u / 10 < 10 ^ (k + 1) := by
        rw [Nat.div_lt_iff_lt_mul (by omega)]
        rw [Nat.pow_succ] at h
        exact h
      have := ih this
      omega
theorem dec_ne (u : Nat) : Lib.decDigits u ≠ [] := by
  have := Lib.nDigits_pos u
  intro e
  have h := Lib.decDigits_length u
  rw [e] at h
  simp at h
  omega
theorem itoa_nat (u : Nat) : Lib.itoa (u : Int) = Lib.decDigits u := by unfold Lib.itoa; rw [if_neg (by omega)]; simp
theorem atoi_dec (u : Nat) : Lib.atoi (Lib.decDigits u) = some (u : Int) := by
  have h1 := dec_ne u
  have h2 := decFrom_dec u
  have h3 := dec_digits u
  cases e : Lib.decDigits u with
  | nil => exact absurd e h1
  | cons b r =>
    have hb := h3 b (by rw [e]; exact List.mem_cons_self ..)
    have n43 : b.toNat ≠ 43 := by omega
    have n45 : b.toNat ≠ 45 := by omega
    rw [e] at h2
    unfold Lib.atoi
    have m43 : b ≠ 43 := fun e => n43 (by rw [e]; rfl)
    have m45 : b ≠ 45 := fun e => n45 (by rw [e]; rfl)
    simp [m43, m45, Lib.decNat, h2]
theorem nm8_data (n : Int) : (nm8 n).data.toList = [108, 111, 103, 45] ++ Lib.itoa n := rfl
theorem trim_nm8 (n : Int) : (trimB (nm8 n)).data.toList = Lib.itoa n := by
  have hsz : (nm8 n).size = 4 + (Lib.itoa n).length := by
    show (nmL n).toArray.size = _
    simp [nmL]
    omega
  have he : ((nm8 n).extract 0 4).toList = [108, 111, 103, 45] := by
    rw [ByteArray.toList_eq, ByteArray.data_extract, Array.toList_extract, nm8_data]
    simp
  unfold trimB
  rw [if_pos (by rw [he]; simp; omega)]
  rw [ByteArray.data_extract, Array.toList_extract, nm8_data, hsz]
  simp
theorem segOf_nm8 {n : Int} (h : 1 ≤ n) : segOf (nm8 n) = some n := by
  obtain ⟨u, rfl⟩ : ∃ u : Nat, n = u := ⟨n.toNat, by omega⟩
  unfold segOf
  rw [trim_nm8, itoa_nat, atoi_dec]
  simp [h]
theorem nm8_inj {a b : Int} (ha : 1 ≤ a) (h : nm8 a = nm8 b) (hb : 1 ≤ b) : a = b := by
  have h1 := segOf_nm8 ha
  rw [h, segOf_nm8 hb] at h1
  simpa using h1.symm
theorem nm8_name {n : Int} (h : 1 ≤ n) (h2 : n ≤ 2147483647) : isName (nm8 n) = true := by
  obtain ⟨u, rfl⟩ : ∃ u : Nat, n = u := ⟨n.toNat, by omega⟩
  have hl := dec_len_le (u := u) 9 (by omega)
  have hsz : (nm8 (u : Int)).size = 4 + (Lib.decDigits u).length := by
    show (nmL (u : Int)).toArray.size = _
    simp [nmL, itoa_nat]
    omega
  unfold isName
  rw [hsz]
  simp only [Bool.and_eq_true, decide_eq_true_eq]
  refine ⟨⟨by omega, by omega⟩, ?_⟩
  rw [nm8_data, itoa_nat, List.all_append, Bool.and_eq_true]
  refine ⟨by decide, List.all_eq_true.2 fun b hb => ?_⟩
  have := dec_digits u b hb
  unfold okc
  simp
  omega
theorem segs_iff {P : PD} (hP : P.inv) {n : Int} : n ∈ segs P ↔ 1 ≤ n ∧ nm8 n ∈ Land.dnames P.now := by
  constructor
  · intro h
    exact ⟨(segs_mem hP h).1, (segs_mem hP h).2.1⟩
  · rintro ⟨h1, h2⟩
    exact List.mem_filterMap.2 ⟨_, h2, segOf_nm8 h1⟩
end Go.Proofs.YthfcjfhaoabdeaaGreatDoor

/-
  A disk that holds segments alone, one behind the other: what each operation leaves of it. No program in sight.
-/
set_option linter.unusedVariables false
set_option linter.unusedSimpArgs false
namespace Go.Proofs.YthfcjfhaoabdeaaGreatDoor
open Go.RowKit Go.Maps

/-! ### What a name leads to -/
theorem look_ins_same (s : ByteArray) (i : Nat) : ∀ D : PDir, (∀ p ∈ D, p.1 ≠ kl s) → Txt D → plook (kl s) (pins (kl s) i D) = some i
  | [], _, _ => by simp [pins, plook, same_kl]
  | y :: r, h, ht => by
    unfold pins
    split
    · simp [plook, same_kl]
    · have ih := look_ins_same s i r (fun p hp => h p (List.mem_cons_of_mem _ hp)) (fun p hp => ht p (List.mem_cons_of_mem _ hp))
      obtain ⟨t, et⟩ := ht y (List.mem_cons_self ..)
      have hy : y.1.sameKey (kl s) = false := by
        rw [et, same_kl]
        simp only [decide_eq_false_iff_not]
        intro e
        exact h y (List.mem_cons_self ..) (by rw [et, e])
      unfold plook at ih ⊢
      rw [List.find?_cons, hy]
      exact ih
theorem look_ins_ne {s t : ByteArray} (hst : s ≠ t) (i : Nat) : ∀ D : PDir, plook (kl t) (pins (kl s) i D) = plook (kl t) D
  | [] => by
    have : (kl s).sameKey (kl t) = false := by rw [same_kl]; simpa using hst
    simp [pins, plook, this]
  | y :: r => by
    have hs : (kl s).sameKey (kl t) = false := by rw [same_kl]; simpa using hst
    have ih := look_ins_ne hst i r
    unfold pins
    split
    · unfold plook
      rw [List.find?_cons, hs]
    · unfold plook at ih ⊢
      rw [List.find?_cons, List.find?_cons]
      cases y.1.sameKey (kl t) with
      | true => rfl
      | false => exact ih
theorem look_del_ne {s t : ByteArray} (hst : s ≠ t) : ∀ D : PDir, Txt D → plook (kl t) (pdel (kl s) D) = plook (kl t) D
  | [], _ => rfl
  | y :: r, ht => by
    have ih := look_del_ne hst r (fun p hp => ht p (List.mem_cons_of_mem _ hp))
    obtain ⟨x, ex⟩ := ht y (List.mem_cons_self ..)
    unfold plook pdel at ih ⊢
    rw [List.filter_cons]
    cases hs : y.1.sameKey (kl s) with
    | false =>
      rw [if_pos (by simp), List.find?_cons, List.find?_cons]
      cases y.1.sameKey (kl t) with
      | true => rfl
      | false => exact ih
    | true =>
      rw [if_neg (by simp), List.find?_cons]
      have : y.1.sameKey (kl t) = false := by
        rw [ex, same_kl] at hs ⊢
        simp only [decide_eq_true_eq] at hs
        subst hs
        simpa using hst
      rw [this]
      exact ih
theorem look_put_same (s : ByteArray) (i : Nat) {D : PDir} (ht : Txt D) : plook (kl s) (pput (kl s) i D) = some i :=
  look_ins_same s i _ (fun p hp => pdel_ne p hp) (fun p hp => ht p (mem_del hp))
theorem look_put_ne {s t : ByteArray} (hst : s ≠ t) (i : Nat) {D : PDir} (ht : Txt D) : plook (kl t) (pput (kl s) i D) = plook (kl t) D := by
  unfold pput
  rw [look_ins_ne hst, look_del_ne hst D ht]
/-! ### Segments alone -/
/-- The disk's names are those of the segments from f on, Cs are their bytes, and how many of them are synced. -/
structure Wl (P : PD) (f : Int) (Cs : List (List Int × Nat)) : Prop where
  inv : P.inv
  f1 : 1 ≤ f
  fm : f + Cs.length ≤ 2147483647
  ex : ∃ ρ : Nat → Nat, (∀ (i : Nat) (x : List Int × Nat), Cs[i]? = some x → plook (kl (nm8 (f + i))) P.now = some (ρ i) ∧ P.fil[ρ i]? = some x) ∧ (∀ i j, i < Cs.length → j < Cs.length → ρ i = ρ j → i = j)
  only : ∀ s i, plook (kl s) P.now = some i → ∃ k : Nat, k < Cs.length ∧ s = nm8 (f + k)
  cnt : P.now.length ≤ Cs.length
section
variable {P : PD} {f : Int} {Cs : List (List Int × Nat)}
theorem wl_new (f : Int) (h : 1 ≤ f) (h2 : f ≤ 2147483647) : Wl PD.new f [] := ⟨inv_new, h, by simpa using h2, ⟨fun _ => 0, (fun i x e => by cases e), fun i j hi => absurd hi (by simp)⟩, (fun s i e => by cases e), Nat.le_refl _⟩
theorem Wl.nm (h : Wl P f Cs) (i : Nat) (hi : i ≤ Cs.length) : isName (nm8 (f + i)) = true := nm8_name (by have := h.f1; omega) (by have := h.fm; omega)
theorem Wl.ne (h : Wl P f Cs) {i j : Nat} (hij : i ≠ j) : nm8 (f + i) ≠ nm8 (f + j) := fun e => hij (by
  have := nm8_inj (by have := h.f1; omega) e (by have := h.f1; omega)
  omega)
/-- Each name that is there is one that leads to something. -/
theorem name_look (hP : P.inv) {s : ByteArray} : s ∈ Land.dnames P.now ↔ ∃ i, plook (kl s) P.now = some i := by
  constructor
  · intro h
    exact (look_name hP h).2
  · rintro ⟨i, h⟩
    obtain ⟨p, hp, rfl, hk⟩ := look_mem h
    obtain ⟨t, et⟩ := hP.now.txt p hp
    rw [et, same_kl] at hk
    simp only [decide_eq_true_eq] at hk
    refine List.mem_map.2 ⟨p, hp, ?_⟩
    rw [et, ks_kl, hk]
theorem Wl.segs (h : Wl P f Cs) {n : Int} : n ∈ segs P ↔ f ≤ n ∧ n < f + Cs.length := by
  rw [segs_iff h.inv, name_look h.inv]
  constructor
  · rintro ⟨h1, i, hi⟩
    obtain ⟨k, hk, e⟩ := h.only _ _ hi
    have := nm8_inj h1 e (by have := h.f1; omega)
    omega
  · rintro ⟨h1, h2⟩
    obtain ⟨k, rfl⟩ : ∃ k : Nat, n = f + k := ⟨(n - f).toNat, by omega⟩
    obtain ⟨ρ, hρ, -⟩ := h.ex
    have hk : k < Cs.length := by omega
    exact ⟨by have := h.f1; omega, _, (hρ k _ (List.getElem?_eq_getElem hk)).1⟩
theorem Wl.read (h : Wl P f Cs) {i : Nat} {x : List Int × Nat} (hi : Cs[i]? = some x) : Land.pread P (nm8 (f + i)) = (0, x.1) := by
  obtain ⟨ρ, hρ, -⟩ := h.ex
  obtain ⟨h1, h2⟩ := hρ i x hi
  unfold Land.pread
  rw [if_neg (by rw [h.nm i (Nat.le_of_lt (List.getElem?_eq_some_iff.1 hi).1)]; decide), h1]
  simp [at_eq h2]
theorem Wl.nogap (h : Wl P f Cs) (first : Int) (hf : f ≤ first) : gap P first = false := by
  unfold gap
  rw [Bool.eq_false_iff]
  intro e
  obtain ⟨n, hn, hc⟩ := List.any_eq_true.1 e
  simp only [Bool.and_eq_true, decide_eq_true_eq, Bool.not_eq_true'] at hc
  have h1 := h.segs.1 hn
  have h2 : n - 1 ∈ Proofs.YthfcjfhaoabdeaaGreatDoor.segs P := h.segs.2 (by omega)
  have := hc.2
  simp [h2] at this
/-- A segment is synced. -/
theorem Wl.sync (h : Wl P f Cs) {i : Nat} {x : List Int × Nat} (hi : Cs[i]? = some x) (hn : P.n < 65536) :
    P.sync (nm8 (f + i)) = (0, { P with fil := (P.sync (nm8 (f + i))).2.fil, n := P.n + 1 }) ∧ Wl (P.sync (nm8 (f + i))).2 f (Cs.set i (x.1, x.1.length)) := by
  have hinv := inv_sync h.inv (nm8 (f + i))
  obtain ⟨ρ, hρ, hj⟩ := h.ex
  obtain ⟨h1, h2⟩ := hρ i x hi
  have hil := (List.getElem?_eq_some_iff.1 hi).1
  have ea := at_eq h2
  have hc : pcode (isName (nm8 (f + i))) (plook (kl (nm8 (f + i))) P.now) P.n = 0 := by
    unfold pcode
    rw [h.nm i (Nat.le_of_lt hil), h1]
    simp
    omega
  have e : P.sync (nm8 (f + i)) = (0, { P with fil := P.fil.set (ρ i) (x.1, x.1.length), n := P.n + 1 }) := by
    unfold PD.sync
    rw [if_pos hc, h1]
    simp only [ea]
  rw [e] at hinv ⊢
  refine ⟨rfl, ⟨hinv, h.f1, by rw [List.length_set]; exact h.fm, ⟨ρ, fun k y hk => ?_, fun a b ha hb => hj a b (by simpa using ha) (by simpa using hb)⟩, fun s k hs => ?_, by rw [List.length_set]; exact h.cnt⟩⟩
  · by_cases hki : k = i
    · subst hki
      rw [List.getElem?_set_self hil] at hk
      simp only [Option.some.injEq] at hk
      subst hk
      exact ⟨h1, List.getElem?_set_self (List.getElem?_eq_some_iff.1 h2).1⟩
    · rw [List.getElem?_set_ne (Ne.symm hki)] at hk
      obtain ⟨g1, g2⟩ := hρ k y hk
      refine ⟨g1, ?_⟩
      show (P.fil.set (ρ i) _)[ρ k]? = _
      rw [List.getElem?_set_ne (fun e => hki (hj k i (List.getElem?_eq_some_iff.1 hk).1 hil e.symm))]
      exact g2
  · obtain ⟨k', hk', e'⟩ := h.only s k hs
    exact ⟨k', by simpa using hk', e'⟩
/-- Another segment is made. -/
theorem Wl.made (h : Wl P f Cs) {xs : List Int} (hx : Byt xs) (hn : P.n < 65536) (hl : xs.length ≤ 262144) (h64 : Cs.length < 64) (hm : f + Cs.length + 1 ≤ 2147483647) :
    P.app (nm8 (f + Cs.length)) xs = (0, { P with log := P.log ++ [.mk (nm8 (f + Cs.length)) P.fil.length], fil := P.fil ++ [(xs, 0)], n := P.n + 1 }) ∧ Wl (P.app (nm8 (f + Cs.length)) xs).2 f (Cs ++ [(xs, 0)]) := by
  have hinv := inv_app h.inv (nm8 (f + Cs.length)) hx
  obtain ⟨ρ, hρ, hj⟩ := h.ex
  have hcnt := h.cnt
  have hno : plook (kl (nm8 (f + Cs.length))) P.now = none := by
    cases e : plook (kl (nm8 (f + Cs.length))) P.now with
    | none => rfl
    | some i =>
      obtain ⟨k, hk, e2⟩ := h.only _ _ e
      exact absurd e2 (h.ne (by omega))
  have e : P.app (nm8 (f + Cs.length)) xs = (0, { P with log := P.log ++ [.mk (nm8 (f + Cs.length)) P.fil.length], fil := P.fil ++ [(xs, 0)], n := P.n + 1 }) := by
    unfold PD.app
    rw [if_neg (by rw [h.nm _ (Nat.le_refl _)]; decide), hno]
    simp only []
    rw [if_neg (by omega)]
  rw [e] at hinv ⊢
  have htx := h.inv.now.txt
  have hnow : PD.now { P with log := P.log ++ [.mk (nm8 (f + Cs.length)) P.fil.length], fil := P.fil ++ [(xs, 0)], n := P.n + 1 } = pput (kl (nm8 (f + Cs.length))) P.fil.length P.now := by
    show pruns (P.log ++ [_]) P.old = _
    rw [pruns_snoc]
    rfl
  have hlt : ∀ i x, Cs[i]? = some x → ρ i < P.fil.length := fun i x hi => (List.getElem?_eq_some_iff.1 (hρ i x hi).2).1
  refine ⟨rfl, ⟨hinv, h.f1, by rw [List.length_append, List.length_singleton]; omega, ⟨fun i => if i < Cs.length then ρ i else P.fil.length, fun k y hk => ?_, fun a b ha hb e => ?_⟩, fun s k hs => ?_, ?_⟩⟩
  · rw [hnow]
    by_cases hkl : k < Cs.length
    · rw [List.getElem?_append_left hkl] at hk
      obtain ⟨g1, g2⟩ := hρ k y hk
      simp only [hkl, if_true]
      refine ⟨by rw [look_put_ne (h.ne (by omega)) _ htx]; exact g1, ?_⟩
      show (P.fil ++ [_])[ρ k]? = _
      rw [List.getElem?_append_left (hlt k y hk)]
      exact g2
    · have hk0 : k = Cs.length := by
        have := (List.getElem?_eq_some_iff.1 hk).1
        simp at this
        omega
      subst hk0
      rw [List.getElem?_append_right (Nat.le_refl _), Nat.sub_self] at hk
      simp only [List.getElem?_cons_zero, Option.some.injEq] at hk
      subst hk
      simp only [Nat.lt_irrefl, if_false]
      refine ⟨look_put_same _ _ htx, ?_⟩
      show (P.fil ++ [(xs, 0)])[P.fil.length]? = _
      simp
  · simp only [List.length_append, List.length_singleton] at ha hb
    by_cases ha2 : a < Cs.length
    · by_cases hb2 : b < Cs.length
      · simp only [ha2, hb2, if_true] at e
        exact hj a b ha2 hb2 e
      · simp only [ha2, hb2, if_true, if_false] at e
        have := hlt a _ (List.getElem?_eq_getElem ha2)
        omega
    · by_cases hb2 : b < Cs.length
      · simp only [ha2, hb2, if_true, if_false] at e
        have := hlt b _ (List.getElem?_eq_getElem hb2)
        omega
      · omega
  · rw [hnow] at hs
    by_cases hsn : nm8 (f + Cs.length) = s
    · exact ⟨Cs.length, by simp, hsn.symm⟩
    · rw [look_put_ne hsn _ htx] at hs
      obtain ⟨k', hk', e'⟩ := h.only s k hs
      exact ⟨k', by simp; omega, e'⟩
  · rw [hnow, List.length_append, List.length_singleton]
    unfold pput
    rw [pins_len]
    have := pdel_le (kl (nm8 (f + Cs.length))) P.now
    omega
/-- The directory is synced. -/
theorem Wl.syncDir (h : Wl P f Cs) (hn : P.n < 65536) : P.syncDir = (0, { P with old := P.now, log := [], n := P.n + 1 }) ∧ Wl P.syncDir.2 f Cs := by
  have hinv := inv_syncDir h.inv
  have e : P.syncDir = (0, { P with old := P.now, log := [], n := P.n + 1 }) := by
    unfold PD.syncDir
    rw [if_neg (by omega)]
  rw [e] at hinv ⊢
  exact ⟨rfl, ⟨hinv, h.f1, h.fm, h.ex, h.only, h.cnt⟩⟩
end
end Go.Proofs.YthfcjfhaoabdeaaGreatDoor
