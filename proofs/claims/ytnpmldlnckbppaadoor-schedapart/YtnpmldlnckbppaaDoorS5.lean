/-
  Run, of the program.
-/
import Derived.Test.YtnpmldlnckbppaaDoorS4
set_option linter.unusedVariables false
set_option linter.unusedSimpArgs false
namespace Go.Proofs.YtnpmldlnckbppaaDoor
open Go.RowKit

abbrev nilS : Value := .slice none 0 0
/-- Lists of numbers that were answered, each in memory of its own. -/
structure Outs (w : World) (B r : Nat) (A : List (List Int)) (us : List Value) : Prop where
  blk : w.heap[r]? = some (.cells us.toArray 26 (0, 0))
  len : us.length = A.length
  row : ∀ i, w.ownsRow B 32 1 (us.getD i nilS) (A.getD i []).length ((A.getD i []).map (Value.int .u64))
  apart : ∀ i j k, i ≠ j → (us.getD i nilS).ownBlock = some k → (us.getD j nilS).ownBlock ≠ some k

theorem row_low {w : World} {B B' : Nat} {e : TypeId} {s : Nat} {v : Value} {k : Nat} {xs : List Value} (h : w.ownsRow B e s v k xs) (hb : B' ≤ B) : w.ownsRow B' e s v k xs := by
  refine ⟨h.1, ?_⟩
  rcases h.2 with h2 | ⟨g, cap, cur, e1, hg, r⟩
  · exact .inl h2
  · exact .inr ⟨g, cap, cur, e1, by omega, r⟩

theorem infoT : (Tryd.prog.info? 50).map (fun i => (i.zero, i.size, i.bytes)) = some (some .nilIface, 1, 16) := by kernel_rfl
theorem infoL : (Tryd.prog.info? 26).map (fun i => (i.zero, i.size, i.bytes)) = some (some nilS, 1, 24) := by kernel_rfl
theorem mk_tasks (n : Nat) (hn : n ≤ 16) (u : World) : (Instr.makeSlice 48 (.int .i64 (n : Int)) (.int .i64 (n : Int))).run Tryd.prog u = .ok (.slice (some ⟨u.heap.size, 0, none⟩) n n) (u.alloc (.cells (madeCells #[.nilIface] n) 50)) := by
  obtain ⟨i0, hi, hz0, hz1, hz2⟩ := info_parts infoT
  have := run_make (P := Tryd.prog) u 48 50 i0 .nilIface Tryd.underlying48 hi hz0 .i64 .i64 n n (by omega) (by omega) (by rw [hz2]; omega) (by omega)
  rw [this, hz1]
  simp only [Nat.mul_one, Int.toNat_natCast, Value.cells]
theorem mk_lists (n : Nat) (hn : n ≤ 16) (u : World) : (Instr.makeSlice 25 (.int .i64 (n : Int)) (.int .i64 (n : Int))).run Tryd.prog u = .ok (.slice (some ⟨u.heap.size, 0, none⟩) n n) (u.alloc (.cells (Array.replicate n nilS) 26)) := by
  obtain ⟨i0, hi, hz0, hz1, hz2⟩ := info_parts infoL
  have := run_make (P := Tryd.prog) u 25 26 i0 nilS Tryd.underlying25 hi hz0 .i64 .i64 n n (by omega) (by omega) (by rw [hz2]; omega) (by omega)
  rw [this, hz1]
  have e : madeCells (Value.cells nilS) n = Array.replicate n nilS := by
    apply Array.ext
    · simp [madeCells]
    · intro i h1 h2
      simp [madeCells, Value.cells, Nat.mod_one]
  simp only [Nat.mul_one, Int.toNat_natCast, e]

theorem Tb.put {w : World} {t k : Nat} {Ps : List PrR} {bs bs' : Nat → Nat} {p : PrR} (h : Tb w t Ps bs k) (hp : Ps[k]? = some p) (he : ∀ i, i < k → bs' i = bs i) : Tb (w.setCell ⟨t, k, none⟩ (taskV p.len (bs' k))) t Ps bs' (k + 1) := by
  obtain ⟨ts, h1, h2, h3⟩ := h
  have hk : k < ts.length := by rw [h2]; exact (List.getElem?_eq_some_iff.1 hp).1
  refine ⟨ts.set k (taskV p.len (bs' k)), ?_, by simpa using h2, fun i q hi hq => ?_⟩
  · rw [Go.Joins.block_setCell h1]
    simp
  · rw [List.getElem?_set]
    by_cases e : k = i
    · subst e
      obtain rfl : p = q := Option.some.inj (hp.symm.trans hq)
      simp [hk]
    · rw [if_neg e, he i (by omega)]
      exact h3 i q (by omega) hq

/-- Tasks as they are made. -/
structure Mk (w : World) (B d t : Nat) (Ps : List PrR) (bs : Nat → Nat) (k : Nat) : Prop where
  tb : Tb w t Ps bs k
  pb : ∀ i p, i < k → Live Ps i p → Pb w (bs i) d (.slice p.ao p.len p.cap) nilS
  low : ∀ i p, i < k → Live Ps i p → B ≤ bs i
  inj : ∀ i j p q, i < k → j < k → Live Ps i p → Live Ps j q → i ≠ j → bs i ≠ bs j

theorem mk_idle {w : World} {B d t k : Nat} {Ps : List PrR} {bs : Nat → Nat} {p : PrR} (h : Mk w B d t Ps bs k) (hp : Ps[k]? = some p) (h0 : p.len = 0) : Mk (w.setCell ⟨t, k, none⟩ (taskV p.len (bs k))) B d t Ps bs (k + 1) := by
  have hno : ∀ i q, i < k + 1 → Live Ps i q → i < k := fun i q hi hq => by
    rcases Nat.lt_or_ge i k with h1 | h1
    · exact h1
    · obtain rfl : i = k := by omega
      obtain rfl : p = q := Option.some.inj (hp.symm.trans hq.1)
      have := hq.2
      omega
  refine ⟨h.tb.put hp (fun _ _ => rfl), fun i q hi hq => ?_, fun i q hi hq => h.low i q (hno i q hi hq) hq, fun i j q r hi hj hq hr => h.inj i j q r (hno i q hi hq) (hno j r hj hr) hq hr⟩
  have h1 := h.pb i q (hno i q hi hq) hq
  refine (Below.heap_setCell _ _ _ _ ?_).trans h1
  intro e
  obtain ⟨ts, h2, -⟩ := h.tb
  unfold Pb at h1
  simp only at e
  rw [e, h2] at h1
  simp at h1

theorem Mk.more {w : World} {B d t k : Nat} {Ps : List PrR} {bs : Nat → Nat} {p : PrR} (h : Mk w B d t Ps bs k) (hp : Ps[k]? = some p) (hB : B ≤ w.heap.size) :
    Mk ((w.alloc (.cells #[.pointer (some ⟨d, 0, none⟩), .slice p.ao p.len p.cap, nilS] 76)).setCell ⟨t, k, none⟩ (taskV p.len w.heap.size)) B d t Ps (fun i => if i = k then w.heap.size else bs i) (k + 1) := by
  have htl := h.tb.lt
  have hnew := heap_alloc_new w (.cells #[.pointer (some ⟨d, 0, none⟩), .slice p.ao p.len p.cap, nilS] 76)
  have htb : Tb (w.alloc (.cells #[.pointer (some ⟨d, 0, none⟩), .slice p.ao p.len p.cap, nilS] 76)) t Ps bs k := h.tb.same (blk_alloc _ _ _ htl)
  have h4 := htb.put (bs' := fun i => if i = k then w.heap.size else bs i) hp (fun i hi => if_neg (by omega))
  simp only [reduceIte] at h4
  refine ⟨h4, fun i q hi hq => ?_, fun i q hi hq => ?_, fun i j q r hi hj hq hr hne => ?_⟩
  · by_cases e : i = k
    · subst e
      obtain rfl : p = q := Option.some.inj (hp.symm.trans hq.1)
      simp only [reduceIte]
      exact (Below.heap_setCell _ _ _ _ (by simp; omega)).trans hnew
    · simp only [if_neg e]
      have h1 := h.pb i q (by omega) hq
      refine (Below.heap_setCell _ _ _ _ ?_).trans ((blk_alloc _ _ _ h1.lt).trans h1)
      intro e2
      obtain ⟨ts, h2, -⟩ := h.tb
      unfold Pb at h1
      simp only at e2
      rw [e2, h2] at h1
      simp at h1
  · by_cases e : i = k
    · simp only [if_pos e]; exact hB
    · simp only [if_neg e]; exact h.low i q (by omega) hq
  · by_cases e : i = k
    · by_cases e2 : j = k
      · exact absurd (e.trans e2.symm) hne
      · have := (h.pb j r (by omega) hr).lt
        simp only [if_pos e, if_neg e2]
        omega
    · by_cases e2 : j = k
      · have := (h.pb i q (by omega) hq).lt
        simp only [if_pos e2, if_neg e]
        omega
      · simp only [if_neg e, if_neg e2]
        exact h.inj i j q r (by omega) (by omega) hq hr hne

theorem Mk.tks {w w0 : World} {B d g t : Nat} {Ps : List PrR} {bs : Nat → Nat} {pao : Option Addr} {plen pcap : Nat} (h : Mk w B d t Ps bs Ps.length) (hPs : Progs w0 pao plen pcap Ps) : Tks w B d g Ps bs (fun _ => nilS) (List.replicate Ps.length []) := by
  have hlt : ∀ i p, Live Ps i p → i < Ps.length := fun i p hi => (List.getElem?_eq_some_iff.1 hi.1).1
  have e0 : ∀ i, (List.replicate Ps.length ([] : List Int)).getD i [] = [] := fun i => by
    simp only [List.getD, List.getElem?_replicate]
    split <;> rfl
  refine ⟨by simp, fun i p hi => ⟨_, h.pb i p (hlt i p hi) hi, ?_⟩, fun i p hi => h.low i p (hlt i p hi) hi, fun i p hi => ?_, fun i p hi => ?_, fun i p hi h0 => e0 i, fun i j p q hi hj => h.inj i j p q (hlt i p hi) (hlt j q hj) hi hj, fun i j p q k hi hj hne hk => by cases hk⟩
  · rw [e0]
    exact LeftOf.zero (hPs.ins p (List.mem_of_getElem? hi.1)).1
  · rw [e0]
    exact ⟨rfl, .inl ⟨rfl, rfl⟩⟩
  · rw [e0]
    exact Nat.zero_le _

/-- What a task has answered, as a value. -/
def outV (Ps : List PrR) (vs : Nat → Value) (i : Nat) : Value := if (Ps.map PrR.len).getD i 0 = 0 then nilS else vs i
def outL (Ps : List PrR) (vs : Nat → Value) : List Value := (List.range Ps.length).map (outV Ps vs)

theorem outL_at {Ps : List PrR} {vs : Nat → Value} (i : Nat) : (outL Ps vs).getD i nilS = outV Ps vs i := by
  unfold outL
  rcases Nat.lt_or_ge i Ps.length with h | h
  · simp [List.getD, h]
  · have e1 : outV Ps vs i = nilS := by
      unfold outV
      rw [if_pos]
      simp [List.getD, List.getElem?_eq_none h]
    rw [e1]
    simp [List.getD, List.getElem?_eq_none, h]

theorem outV_live {Ps : List PrR} {vs : Nat → Value} {i : Nat} {p : PrR} (h : Live Ps i p) : outV Ps vs i = vs i := by
  unfold outV
  rw [if_neg]
  have := h.2
  simp [List.getD, h.1]
  omega
theorem outV_none {Ps : List PrR} {vs : Nat → Value} {i : Nat} (h : ∀ p, ¬ Live Ps i p) : outV Ps vs i = nilS := by
  unfold outV
  rw [if_pos]
  cases e : Ps[i]? with
  | none => simp [List.getD, e]
  | some p =>
    have : ¬ 0 < p.len := fun h0 => h p ⟨e, h0⟩
    simp [List.getD, e]
    omega

theorem Tks.outs {w w' : World} {B B' d g r : Nat} {Ps : List PrR} {bs : Nat → Nat} {vs : Nat → Value} {A : List (List Int)} (h : Tks w B d g Ps bs vs A) (hr : w.heap[r]? = some (.cells (outL Ps vs).toArray 26 (0, 0))) (hB : B' ≤ B) : Outs w B' r A (outL Ps vs) := by
  refine ⟨hr, by simp [outL, h.len], fun i => ?_, fun i j k hne hk => ?_⟩
  · rw [outL_at]
    by_cases hl : ∃ p, Live Ps i p
    · obtain ⟨p, hp⟩ := hl
      rw [outV_live hp]
      exact row_low (h.row i p hp) hB
    · rw [outV_none (fun p hp => hl ⟨p, hp⟩)]
      have e : A.getD i [] = [] := by
        cases e : Ps[i]? with
        | none =>
          have := List.getElem?_eq_none_iff.1 e
          simp [List.getD, List.getElem?_eq_none (show A.length ≤ i by rw [h.len]; exact this)]
        | some p => exact h.nil i p e (by have : ¬ 0 < p.len := fun h0 => hl ⟨p, e, h0⟩; omega)
      rw [e]
      exact ⟨rfl, .inl ⟨rfl, rfl⟩⟩
  · rw [outL_at] at hk ⊢
    by_cases hi : ∃ p, Live Ps i p
    · by_cases hj : ∃ p, Live Ps j p
      · obtain ⟨p, hp⟩ := hi
        obtain ⟨q, hq⟩ := hj
        rw [outV_live hp] at hk
        rw [outV_live hq]
        exact h.apart i j p q k hp hq hne hk
      · rw [outV_none (fun p hp => hj ⟨p, hp⟩)]
        intro e
        cases e
    · rw [outV_none (fun p hp => hi ⟨p, hp⟩)] at hk
      cases hk
end Go.Proofs.YtnpmldlnckbppaaDoor
