/-
  A run without memory; tasks in memory; what a pick does.
-/
import Derived.Test.YtnpmldlnckbppaaDoorS3
set_option linter.unusedVariables false
set_option linter.unusedSimpArgs false
namespace Go.Proofs.YtnpmldlnckbppaaDoor
open Go.RowKit

/-! ### Without memory -/
/-- What the cells have, what each program's operations have answered, how many picks did something. -/
structure St where
  N : List Int
  A : List (List Int)
  n : Nat
def nxt (Q : List (List OpR)) (A : List (List Int)) (i : Nat) : Option OpR := (Q.getD i [])[(A.getD i []).length]?
def St.does (s : St) (i : Nat) (o : OpR) : St :=
  ⟨s.N.set o.c.toNat (act o.k.toNat o.a o.b (s.N.getD o.c.toNat 0)).2, s.A.set i (s.A.getD i [] ++ [(act o.k.toNat o.a o.b (s.N.getD o.c.toNat 0)).1]), s.n + 1⟩
def stp (Q : List (List OpR)) (s : St) (p : Int) : St :=
  if p < 0 then s else match nxt Q s.A p.toNat with
    | none => s
    | some o => s.does p.toNat o
def St.start (n k : Nat) : St := ⟨List.replicate n 0, List.replicate k [], 0⟩
def runs (Q : List (List OpR)) (xs : List Int) (s : St) : St := xs.foldl (stp Q) s
theorem runs_take {Q : List (List OpR)} {xs : List Int} {s : St} {k : Nat} (h : k < xs.length) : runs Q (xs.take (k + 1)) s = stp Q (runs Q (xs.take k) s) (xs.getD k 0) := by
  have e : xs.getD k 0 = xs[k] := by simp [List.getD, List.getElem?_eq_getElem h]
  rw [e]
  unfold runs
  rw [← List.take_append_getElem h, List.foldl_append]
  rfl
theorem stp_len {Q : List (List OpR)} {s : St} {p : Int} : (stp Q s p).A.length = s.A.length ∧ (stp Q s p).N.length = s.N.length ∧ s.n ≤ (stp Q s p).n ∧ (stp Q s p).n ≤ s.n + 1 := by
  unfold stp
  split
  · exact ⟨rfl, rfl, Nat.le_refl _, by omega⟩
  · split
    · exact ⟨rfl, rfl, Nat.le_refl _, by omega⟩
    · simp [St.does]
def ops (Ps : List PrR) : List (List OpR) := Ps.map PrR.ops
theorem ops_at {Ps : List PrR} {i : Nat} {p : PrR} (h : Ps[i]? = some p) : (ops Ps).getD i [] = p.ops := by
  simp [ops, List.getD, h]

/-! ### In memory -/
/-- A program that has operations. -/
def Live (Ps : List PrR) (i : Nat) (p : PrR) : Prop := Ps[i]? = some p ∧ 0 < p.len

structure Tks (w : World) (B d g : Nat) (Ps : List PrR) (bs : Nat → Nat) (vs : Nat → Value) (A : List (List Int)) : Prop where
  len : A.length = Ps.length
  pb : ∀ i p, Live Ps i p → ∃ lv, Pb w (bs i) d lv (vs i) ∧ LeftOf p (A.getD i []).length lv
  low : ∀ i p, Live Ps i p → B ≤ bs i
  row : ∀ i p, Live Ps i p → w.ownsRow B 32 1 (vs i) (A.getD i []).length ((A.getD i []).map (Value.int .u64))
  le : ∀ i p, Live Ps i p → (A.getD i []).length ≤ p.len
  nil : ∀ i p, Ps[i]? = some p → p.len = 0 → A.getD i [] = []
  inj : ∀ i j p q, Live Ps i p → Live Ps j q → i ≠ j → bs i ≠ bs j
  apart : ∀ i j p q k, Live Ps i p → Live Ps j q → i ≠ j → (vs i).ownBlock = some k → (vs j).ownBlock ≠ some k

section
variable {w w' : World} {B d g : Nat} {Ps : List PrR} {bs : Nat → Nat} {vs : Nat → Value} {A : List (List Int)}
theorem Tks.below (h : Tks w B d g Ps bs vs A) (hb : Below w.heap.size w w') : Tks w' B d g Ps bs vs A :=
  { h with
    pb := fun i p hi => by
      obtain ⟨lv, h1, h2⟩ := h.pb i p hi
      exact ⟨lv, (hb.block _ h1.lt).trans h1, h2⟩
    row := fun i p hi => row_fr (G := fun _ => False) (h.row i p hi) (Fr.below hb) (fun _ _ h => h) }

theorem getD_set_list {A : List (List Int)} {i j : Nat} {x : List Int} (hi : i < A.length) : (A.set i x).getD j [] = if j = i then x else A.getD j [] := by
  simp only [List.getD, List.getElem?_set]
  by_cases h : i = j
  · subst h; simp [hi]
  · simp [h, Ne.symm h]

/-- A program has done one operation more. -/
theorem Tks.step (h : Tks w B d g Ps bs vs A) {i : Nat} {p : PrR} (hi : Live Ps i p) (x : Int) (hlt : (A.getD i []).length < p.len) {lv v' : Value} (hd : ∀ e z, w.heap[d]? = some (.cells e z (0, 0)) → z = 88) (hdl : ∃ e, w.heap[d]? = some (.cells e 88 (0, 0))) (hgl : ∃ e, w.heap[g]? = some (.cells e 32 (0, 0))) (hgB : g < B)
    (hP : Pb w' (bs i) d lv v') (hL : LeftOf p ((A.getD i []).length + 1) lv) (hr : w'.ownsRow B 32 1 v' (A.getD i [] ++ [x]).length ((A.getD i [] ++ [x]).map (Value.int .u64)))
    (hn : v'.ownBlock = (vs i).ownBlock ∨ ∀ j, v'.ownBlock = some j → w.heap.size ≤ j) (hF : Fr (fun j => j = bs i ∨ j = d ∨ j = g ∨ (vs i).ownBlock = some j) w w') :
    Tks w' B d g Ps bs (fun j => if j = i then v' else vs j) (A.set i (A.getD i [] ++ [x])) := by
  have hiA : i < A.length := by rw [h.len]; exact (List.getElem?_eq_some_iff.1 hi.1).1
  refine ⟨by simpa using h.len, fun j q hj => ?_, h.low, fun j q hj => ?_, fun j q hj => ?_, fun j q hj h0 => ?_, h.inj, fun j l q r k hj hl hne hk => ?_⟩
  · by_cases e : j = i
    · subst e
      obtain rfl : p = q := Option.some.inj (hi.1.symm.trans hj.1)
      refine ⟨lv, by simpa using hP, ?_⟩
      rw [getD_set_list hiA, if_pos rfl]
      simpa using hL
    · obtain ⟨lv2, h1, h2⟩ := h.pb j q hj
      refine ⟨lv2, ?_, by rw [getD_set_list hiA, if_neg e]; exact h2⟩
      simp only [if_neg e]
      refine (hF.block _ h1.lt ?_).trans h1
      rintro (e2 | e2 | e2 | e2)
      · exact h.inj j i q p hj hi e e2
      · obtain ⟨c, hc⟩ := hdl
        unfold Pb at h1
        rw [e2, hc] at h1
        simp at h1
      · obtain ⟨c, hc⟩ := hgl
        unfold Pb at h1
        rw [e2, hc] at h1
        simp at h1
      · exact h1.nrow (h.row i p hi) e2
  · by_cases e : j = i
    · subst e
      rw [getD_set_list hiA, if_pos rfl]
      simpa using hr
    · rw [getD_set_list hiA, if_neg e]
      simp only [if_neg e]
      refine row_fr (h.row j q hj) hF (fun k hk => ?_)
      rintro (e2 | e2 | e2 | e2)
      · obtain ⟨lv2, h1, h2⟩ := h.pb i p hi
        exact h1.nrow (h.row j q hj) (by rw [hk, e2])
      · obtain ⟨c, fz, hh⟩ := Go.Lib.ownsRow_kind (h.row j q hj) k hk
        obtain ⟨c2, hc⟩ := hdl
        rw [e2, hc] at hh
        simp at hh
      · have := ((h.row j q hj).lt k hk).1
        omega
      · exact h.apart i j p q k hi hj (Ne.symm e) e2 hk
  · by_cases e : j = i
    · subst e
      obtain rfl : p = q := Option.some.inj (hi.1.symm.trans hj.1)
      rw [getD_set_list hiA, if_pos rfl, List.length_append]
      simp only [List.length_singleton]
      omega
    · rw [getD_set_list hiA, if_neg e]
      exact h.le j q hj
  · have e : j ≠ i := by
      rintro rfl
      obtain rfl : p = q := Option.some.inj (hi.1.symm.trans hj)
      have := hi.2
      omega
    rw [getD_set_list hiA, if_neg e]
    exact h.nil j q hj h0
  · by_cases e : j = i
    · subst e
      have e2 : l ≠ j := Ne.symm hne
      simp only [reduceIte, if_neg e2] at hk ⊢
      rcases hn with hn | hn
      · exact h.apart j l q r k hj hl hne (hn ▸ hk)
      · intro e3
        have h1 := ((h.row l r hl).lt k e3).2
        have h2 := hn k hk
        omega
    · by_cases e2 : l = i
      · subst e2
        simp only [reduceIte, if_neg e] at hk ⊢
        rcases hn with hn | hn
        · rw [hn]
          exact h.apart j l q r k hj hl hne hk
        · intro e3
          have h1 := ((h.row j q hj).lt k hk).2
          have h2 := hn k e3
          omega
      · simp only [if_neg e, if_neg e2] at hk ⊢
        exact h.apart j l q r k hj hl hne hk
end

/-- The list of tasks. -/
def Tb (w : World) (t : Nat) (Ps : List PrR) (bs : Nat → Nat) (k : Nat) : Prop :=
  ∃ ts : List Value, w.heap[t]? = some (.cells ts.toArray 50 (0, 0)) ∧ ts.length = Ps.length ∧ ∀ i p, i < k → Ps[i]? = some p → ts[i]? = some (taskV p.len (bs i))
theorem Tb.lt {w : World} {t : Nat} {Ps : List PrR} {bs : Nat → Nat} {k : Nat} (h : Tb w t Ps bs k) : t < w.heap.size := by
  obtain ⟨ts, h1, -⟩ := h
  exact (Array.getElem?_eq_some_iff.1 h1).1
theorem Tb.cell {w : World} {t : Nat} {Ps : List PrR} {bs : Nat → Nat} {k i : Nat} {p : PrR} (h : Tb w t Ps bs k) (hi : i < k) (hp : Ps[i]? = some p) : w.cell? ⟨t, i, none⟩ = some (taskV p.len (bs i)) := by
  obtain ⟨ts, h1, h2, h3⟩ := h
  rw [Go.Joins.cell_of_block h1]
  simpa using h3 i p hi hp
theorem Tb.same {w w' : World} {t : Nat} {Ps : List PrR} {bs : Nat → Nat} {k : Nat} (h : Tb w t Ps bs k) (e : w'.heap[t]? = w.heap[t]?) : Tb w' t Ps bs k := by
  obtain ⟨ts, h1, h2, h3⟩ := h
  exact ⟨ts, e.trans h1, h2, h3⟩

theorem LeftOf.next {p : PrR} {k : Nat} {ao : Option Addr} {cap : Nat} (hk : k < p.len) (h : LeftOf p k (.slice ao (p.len - k) cap)) : ∃ b off, p.ao = some ⟨b, off, none⟩ ∧ ao = some ⟨b, off + k * 4, none⟩ ∧ p.len - k ≤ cap ∧ LeftOf p (k + 1) (sliced (some ⟨b, off + k * 4, none⟩) 1 (p.len - k) cap 4) := by
  obtain ⟨ao2, cap2, e, h1, h2, h3⟩ := h
  simp only [Value.slice.injEq] at e
  obtain ⟨rfl, -, rfl⟩ := e
  obtain ⟨b, off, e1, e2⟩ := h1 hk
  refine ⟨b, off, e1, e2, h2, ?_⟩
  refine ⟨_, _, rfl, fun hk2 => ⟨b, off, e1, ?_⟩, by omega, by omega⟩
  have hne : ¬ cap = 1 := by omega
  rw [if_neg hne]
  rw [Option.map_some, addr_add, show off + k * 4 + 1 * 4 = off + (k + 1) * 4 by omega]

set_option maxHeartbeats 2000000 in
/-- A task's step, as a pick asks for it: what it answers and leaves. -/
theorem task_step {w : World} {B d g n : Nat} {Ps : List PrR} {bs : Nat → Nat} {vs : Nat → Value} {s : St} {F : List Nat} {pao : Option Addr} {plen pcap : Nat} (hPs : Progs w pao plen pcap Ps) (hok : ∀ p ∈ Ps, p.ops.length ≤ 65536 ∧ ∀ o ∈ p.ops, bad n o = false)
    (hT : Tks w B d g Ps bs vs s.A) (hA : Aw w d g (List.replicate n true) s.N (s.n : Int) F) (hn : s.n < 4611686018427387904) (hgB : g < B) (hB : B ≤ w.heap.size) (i : Nat) (p : PrR) (hi : Live Ps i p) :
    Calls Tryd.prog 71 #[.pointer (some ⟨bs i, 0, none⟩)] w fun e w' => e = .returned (.bool (nxt (ops Ps) s.A i).isSome) ∧
      (∃ vs', Tks w' B d g Ps bs vs' (stp (ops Ps) s i).A) ∧ Aw w' d g (List.replicate n true) (stp (ops Ps) s i).N ((stp (ops Ps) s i).n : Int) F ∧ Fr (fun j => B ≤ j ∨ j = d ∨ j = g) w w' ∧ (∀ t k, Tb w t Ps bs k → Tb w' t Ps bs k) := by
  have hpm : p ∈ Ps := List.mem_of_getElem? hi.1
  obtain ⟨hs, hoo⟩ := hPs.ins p hpm
  obtain ⟨hol, hob⟩ := hok p hpm
  obtain ⟨lv, hP, hL⟩ := hT.pb i p hi
  have hle := hT.le i p hi
  have hpl := hs.1
  have ei : ¬ ((i : Int) < 0) := by omega
  have et : ((i : Int)).toNat = i := Int.toNat_natCast i
  by_cases hlt : (s.A.getD i []).length < p.len
  · obtain ⟨o, ho⟩ := some_at hpl hlt
    have hnx : nxt (ops Ps) s.A i = some o := by unfold nxt; rw [ops_at hi.1]; exact ho
    have hst : stp (ops Ps) s i = s.does i o := by unfold stp; rw [if_neg ei, et, hnx]
    rw [hst, hnx]
    have hom : o ∈ p.ops := List.mem_of_getElem? ho
    obtain ⟨ao, cap, rfl, hx1, hx2, hx3⟩ := id hL
    obtain ⟨b, off, e1, e2, e3, hL2⟩ := hL.next hlt
    subst e2
    obtain ⟨b', off', e4, hb, hc⟩ := hs.2.2.2 (by omega)
    rw [e1] at e4
    obtain ⟨rfl, rfl⟩ : b = b' ∧ off = off' := by simpa using e4
    obtain ⟨ll, ell⟩ : ∃ ll, p.len - (s.A.getD i []).length = ll + 1 := ⟨p.len - (s.A.getD i []).length - 1, by omega⟩
    rw [ell] at hP hL2 e3
    have q0 : w.cell? ⟨b, off + (s.A.getD i []).length * 4, none⟩ = some (.int .i64 o.k) := hc _ o ho 0 _ rfl
    have q1 := hc _ o ho 1 _ rfl
    have q2 := hc _ o ho 2 _ rfl
    have q3 := hc _ o ho 3 _ rfl
    refine (step_do w B (bs i) d g n ll cap b (off + (s.A.getD i []).length * 4) o s.N (s.A.getD i []) s.n _ F (vs i) _ hP e3 hA q0 q1 q2 q3 (hT.row i p hi) hB hgB (by omega) (fun u hu => Do_right hu o (hoo o hom) (hob o hom) ⟨by omega, by omega⟩)).mono ?_
    rintro e w' ⟨rfl, v', hP', hA', hr', hn', hF'⟩
    have hlow := hT.low i p hi
    have hown : ∀ j, (vs i).ownBlock = some j → B ≤ j := fun j hj => ((hT.row i p hi).lt j hj).1
    refine ⟨rfl, ⟨_, hT.step hi _ hlt ?_ ⟨_, hA.ab.2.2⟩ ⟨_, hA.nb⟩ hgB hP' hL2 hr' hn' hF'⟩, hA', hF'.mono ?_, fun t k ht => ht.same (hF'.block t ht.lt ?_)⟩
    · intro e z he
      rw [hA.ab.2.2] at he
      simp at he
      exact he.2.symm
    · rintro j - (h | h | h | h)
      · exact .inl (h ▸ hlow)
      · exact .inr (.inl h)
      · exact .inr (.inr h)
      · exact .inl (hown j h)
    · obtain ⟨ts, h1, -⟩ := ht
      rintro (h | h | h | h)
      · unfold Pb at hP
        rw [← h, h1] at hP
        simp at hP
      · have := hA.ab.2.2
        rw [← h, h1] at this
        simp at this
      · have := hA.nb
        unfold Nb at this
        rw [← h, h1] at this
        simp at this
      · obtain ⟨c, fz, hh⟩ := Go.Lib.ownsRow_kind (hT.row i p hi) t h
        rw [h1] at hh
        simp at hh
  · have hnx : nxt (ops Ps) s.A i = none := by
      unfold nxt
      rw [ops_at hi.1]
      exact List.getElem?_eq_none (by omega)
    have hst : stp (ops Ps) s i = s := by unfold stp; rw [if_neg ei, et, hnx]
    rw [hst, hnx]
    have ek : (s.A.getD i []).length = p.len := by omega
    rw [ek] at hL
    refine (step_none w (bs i) d p (vs i) lv hP hL).mono ?_
    rintro e w' ⟨rfl, rfl⟩
    exact ⟨rfl, ⟨vs, hT⟩, hA, Fr.refl _ _, fun _ _ h => h⟩
end Go.Proofs.YtnpmldlnckbppaaDoor
