/-
  Operations of several workers, without memory.
-/
import Derived.Test.YtbpihkojmbfccaaDoorHc4
set_option linter.unusedVariables false
set_option linter.unusedSimpArgs false
namespace Go.Proofs.YtbpihkojmbfccaaDoor
open Go.RowKit Go.Maps Go.Sort

/-- An operation under way: what was asked, the operation, its block, when it was begun, when it was done. -/
structure Un where
  x : AskR
  o : Opm
  b : Nat
  beg : Nat
  fin : Option Nat

/-- Whose an ask is. -/
def wkr (a : Int) : Nat := ((a.tmod 4 + 4).tmod 4).toNat
theorem wkr_lt (a : Int) : wkr a < 4 := by
  unfold wkr
  have h1 := Int.tmod_lt_of_pos a (b := 4) (by decide)
  have h2 : -4 < a.tmod 4 := by have := Int.lt_tmod_of_pos a (b := 4) (by decide); omega
  have h3 := Int.tmod_lt_of_pos (a.tmod 4 + 4) (b := 4) (by decide)
  omega

/-- What an operation that is not done has come to. -/
structure Run (s : Tb) (u : Un) : Prop where
  oi : OI s u.o
  k : u.o.k = u.x.key
  ins : u.o.ins = !u.x.look
  st : u.o.st < 3
  full : u.o.full = false
  cell : ∀ c, u.o.cell = some c → c ∈ s.sp
  two : u.o.st = 2 → u.o.cell ≠ none ∧ u.o.had = true ∧ u.o.code = 0 ∧ ∃ e ∈ s.all, e.k = u.x.key ∧ e.r = u.o.r
  ref : u.o.st < 2 → u.o.r = if u.x.look = true then 0 else u.x.ref
  put : u.o.st = 1 → u.x.look = false
  lk : u.x.look = true → u.o.cell = none

/-- What one that is done has come to. -/
structure Fed (s : Tb) (u : Un) : Prop where
  st : u.o.st = 3
  code : u.o.code = 0
  had : u.o.had = true → ∃ e ∈ s.all, e.k = u.x.key ∧ e.r = u.o.r
  put : u.o.had = false → u.x.look = false → u.o.r = u.x.ref ∧ ∃ e ∈ s.all, e.k = u.x.key ∧ e.r = u.x.ref
  miss : u.o.had = false → u.x.look = true → u.o.r = 0

structure Ui (s : Tb) (t : Nat) (u : Un) : Prop where
  bg : u.beg ≤ t
  ed : ∀ f, u.fin = some f → u.beg ≤ f ∧ f ≤ t
  run : u.fin = none → good u.x.key = true → Run s u
  fed : u.fin.isSome = true → good u.x.key = true → Fed s u
  nrun : u.fin = none → good u.x.key = false → u.o.st = 0 ∧ u.o.k = .empty ∧ u.o.cell = none
  nfed : u.fin.isSome = true → good u.x.key = false → u.o.st = 3 ∧ u.o.code = 90

/-- Is a key put in by this one? -/
def Un.puts (u : Un) : Prop := u.fin.isSome = true ∧ good u.x.key = true ∧ u.x.look = false ∧ u.o.had = false

structure Ti (s : Tb) (l : List Un) (now : Nat → Option Nat) (t : Nat) : Prop where
  one : ∀ u ∈ l, Ui s t u
  nw : ∀ (w j : Nat), now w = some j → ∃ u, l[j]? = some u ∧ u.fin = none ∧ wkr u.x.w = w
  un : ∀ (j : Nat) (u : Un), l[j]? = some u → u.fin = none → now (wkr u.x.w) = some j
  inj : ∀ (i j : Nat) (u v : Un) (c : Nat), l[i]? = some u → l[j]? = some v → u.fin = none → v.fin = none → u.o.cell = some c → v.o.cell = some c → i = j
  sp : ∀ c ∈ s.sp, ∃ u ∈ l, u.fin = none ∧ u.o.cell = some c
  en : s.all.length ≤ (l.filter fun u => u.fin.isSome).length
  put : ∀ e ∈ s.all, ∃ u ∈ l, u.puts ∧ u.x.key = e.k ∧ u.x.ref = e.r
  uni : ∀ (i j : Nat) (u v : Un), l[i]? = some u → l[j]? = some v → u.puts → v.puts → u.x.key = v.x.key → i = j
  ord : ∀ u ∈ l, ∀ v ∈ l, ∀ (a b : Nat), u.fin = some a → v.fin = some b → good u.x.key = true → u.x.key = v.x.key → u.o.had = false → (v.x.look = false ∨ v.o.had = true) → a ≤ b
  hb : ∀ u ∈ l, ∀ (a : Nat), u.fin = some a → good u.x.key = true → u.o.had = true → ∃ v ∈ l, v.x.key = u.x.key ∧ v.x.look = false ∧ v.beg ≤ a

theorem Ti.start (n : Nat) : Ti (s0 n) [] (fun _ => none) 0 := by
  refine ⟨?_, ?_, ?_, ?_, ?_, ?_, ?_, ?_, ?_, ?_⟩
  · intro u hu; cases hu
  · intro w j h; cases h
  · intro j u h; simp at h
  · intro i j u v c h; simp at h
  · intro c hc; simp [s0] at hc
  · rw [s0_all]; simp
  · intro e he; rw [s0_all] at he; cases he
  · intro i j u v h; simp at h
  · intro u hu; cases hu
  · intro u hu; cases hu

section
variable {s : Tb} {l : List Un} {now : Nat → Option Nat} {t : Nat}
theorem Ui.later {u : Un} {t' : Nat} (h : Ui s t u) (ht : t ≤ t') : Ui s t' u :=
  ⟨by have := h.bg; omega, fun f e => by have := h.ed f e; omega, h.run, h.fed, h.nrun, h.nfed⟩
theorem Ti.later {t' : Nat} (h : Ti s l now t) (ht : t ≤ t') : Ti s l now t' :=
  ⟨fun u hu => (h.one u hu).later ht, h.nw, h.un, h.inj, h.sp, h.en, h.put, h.uni, h.ord, h.hb⟩

theorem count_parts (l : List Un) : (l.filter fun u => u.fin.isSome).length + (l.filter fun u => u.fin.isNone).length = l.length := by
  induction l with
  | nil => rfl
  | cons u l ih =>
    cases h : u.fin with
    | none => simp [List.filter_cons, h] at ih ⊢; omega
    | some f => simp [List.filter_cons, h] at ih ⊢; omega
theorem nodup_leN : ∀ (ss M : List Nat), ss.Nodup → (∀ x ∈ ss, x ∈ M) → ss.length ≤ M.length := by
  intro ss
  induction ss with
  | nil => intro M _ _; exact Nat.zero_le _
  | cons y ys ih =>
    intro M hn hs
    obtain ⟨n1, n2⟩ := List.nodup_cons.1 hn
    have hy := hs y (by simp)
    have := ih (M.erase y) n2 (fun x hx => (List.mem_erase_of_ne (fun q => n1 (by rw [← q]; exact hx))).2 (hs x (by simp [hx])))
    rw [List.length_erase_of_mem hy] at this
    have := List.length_pos_of_mem hy
    simp only [List.length_cons]
    omega
/-- Of all cells at most as many as there are operations are keys' or spare. -/
theorem Ti.room (h : Ti s l now t) (hn : s.sp.Nodup) : s.all.length + s.sp.length ≤ l.length := by
  have h1 := h.en
  have h2 := count_parts l
  have h3 : s.sp.length ≤ ((l.filter fun u => u.fin.isNone).filterMap fun u => u.o.cell).length := nodup_leN _ _ hn (fun c hc => by
    obtain ⟨u, hu, hf, hcc⟩ := h.sp c hc
    exact List.mem_filterMap.2 ⟨u, List.mem_filter.2 ⟨hu, by simp [hf]⟩, hcc⟩)
  have h4 := List.length_filterMap_le (fun u : Un => u.o.cell) (l.filter fun u => u.fin.isNone)
  omega

/-- A new operation. -/
theorem Ti.begun (h : Ti s l now t) {x : AskR} {b : Nat} (hw : now (wkr x.w) = none) (hnw : ∀ w j, now w = some j → j < l.length) :
    Ti s (l ++ [⟨x, opB s x.key (!x.look) (if x.look = true then 0 else x.ref), b, t, none⟩]) (fun w => if w = wkr x.w then some l.length else now w) t := by
  obtain ⟨u0, hu0⟩ : ∃ u : Un, u = ⟨x, opB s x.key (!x.look) (if x.look = true then 0 else x.ref), b, t, none⟩ := ⟨_, rfl⟩
  have f0 : u0.fin = none := by rw [hu0]
  have x0 : u0.x = x := by rw [hu0]
  have c0 : u0.o.cell = none := by
    rw [hu0]; show (opB _ _ _ _).cell = none
    unfold opB; split <;> rfl
  rw [← hu0]
  have hmem : ∀ u, u ∈ l ++ [u0] ↔ u ∈ l ∨ u = u0 := fun u => by simp
  have hget : ∀ j u, (l ++ [u0])[j]? = some u → l[j]? = some u ∨ (j = l.length ∧ u = u0) := fun j u hj => by
    rw [List.getElem?_append] at hj
    split at hj
    · exact .inl hj
    · rename_i hlt
      have : j - l.length = 0 := by
        rcases Nat.eq_zero_or_pos (j - l.length) with q | q
        · exact q
        · rw [List.getElem?_eq_none (by simp; omega)] at hj; cases hj
      rw [this] at hj
      simp at hj
      exact .inr ⟨by omega, hj.symm⟩
  have hput0 : ¬ u0.puts := fun q => by have := q.1; rw [f0] at this; cases this
  refine ⟨fun u hu => ?_, fun w j hj => ?_, fun j u hj hf => ?_, fun i j u v c hi hj hf hg hc hd => ?_, fun c hc => ?_, ?_, fun e he => ?_, fun i j u v hi hj hp hq hk => ?_, fun u hu v hv a b' ha hb' hg hk hh ho => ?_, fun u hu a ha hg hh => ?_⟩
  · rcases (hmem u).1 hu with h1 | h1
    · exact h.one u h1
    · subst h1
      refine ⟨by rw [hu0]; exact Nat.le_refl _, fun f e => (by rw [f0] at e; cases e), fun _ hg => ?_, fun e => (by rw [f0] at e; cases e), fun _ hg => ?_, fun e => (by rw [f0] at e; cases e)⟩
      · rw [x0] at hg
        rw [hu0]
        refine ⟨opB_oi hg _ _, by rw [opB_good hg], by rw [opB_good hg], by rw [opB_st]; decide, by rw [opB_good hg]; rfl, fun c e => (by rw [opB_good hg] at e; cases e), fun e => (by rw [opB_st] at e; cases e), fun _ => by rw [opB_good hg], fun e => (by rw [opB_st] at e; cases e), fun _ => by rw [opB_good hg]; rfl⟩
      · rw [x0] at hg
        rw [hu0]
        exact ⟨opB_st _ _ _, by rw [opB_bad hg]; rfl, by rw [opB_bad hg]; rfl⟩
  · by_cases e : w = wkr x.w
    · rw [if_pos e] at hj
      cases hj
      exact ⟨u0, by simp, f0, by rw [x0, e]⟩
    · rw [if_neg e] at hj
      obtain ⟨u, h1, h2⟩ := h.nw w j hj
      exact ⟨u, by rw [List.getElem?_append_left (hnw w j hj)]; exact h1, h2⟩
  · rcases hget j u hj with h1 | ⟨h1, h2⟩
    · have := h.un j u h1 hf
      rw [if_neg]
      · exact this
      · intro e; rw [e, hw] at this; cases this
    · rw [h2, x0, if_pos rfl, h1]
  · rcases hget i u hi with h1 | ⟨h1, h2⟩
    · rcases hget j v hj with h3 | ⟨h3, h4⟩
      · exact h.inj i j u v c h1 h3 hf hg hc hd
      · rw [h4, c0] at hd; cases hd
    · rw [h2, c0] at hc; cases hc
  · obtain ⟨u, hu, h1⟩ := h.sp c hc
    exact ⟨u, (hmem u).2 (.inl hu), h1⟩
  · rw [List.filter_append, List.length_append]; have := h.en; omega
  · obtain ⟨u, hu, h1⟩ := h.put e he
    exact ⟨u, (hmem u).2 (.inl hu), h1⟩
  · rcases hget i u hi with h1 | ⟨h1, h2⟩
    · rcases hget j v hj with h3 | ⟨h3, h4⟩
      · exact h.uni i j u v h1 h3 hp hq hk
      · exact absurd (h4 ▸ hq) hput0
    · exact absurd (h2 ▸ hp) hput0
  · rcases (hmem u).1 hu with h1 | h1
    · rcases (hmem v).1 hv with h2 | h2
      · exact h.ord u h1 v h2 a b' ha hb' hg hk hh ho
      · rw [h2, f0] at hb'; cases hb'
    · rw [h1, f0] at ha; cases ha
  · rcases (hmem u).1 hu with h1 | h1
    · obtain ⟨v, hv, h2⟩ := h.hb u h1 a ha hg hh
      exact ⟨v, (hmem v).2 (.inl hv), h2⟩
    · rw [h1, f0] at ha; cases ha
end
end Go.Proofs.YtbpihkojmbfccaaDoor
