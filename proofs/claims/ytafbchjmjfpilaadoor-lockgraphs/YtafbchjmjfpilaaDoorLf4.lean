/-
  Lf4: A range over the paths of a graph: the statement's law.
-/
import Derived.Test.YtafbchjmjfpilaaDoorLf3
set_option linter.unusedVariables false
set_option linter.unusedSimpArgs false
namespace Go.Proofs.YtafbchjmjfpilaaDoor
open Go.RowKit Go.Shelf
attribute [local go_sem] Oper.semAt_some

section
set_option maxHeartbeats 2000000
set_option maxRecDepth 100000
theorem and_pow (x k : Nat) : ((x &&& 2 ^ k) != 0) = x.testBit k := by
  cases h : x.testBit k with
  | true =>
    have h1 : (x &&& 2 ^ k).testBit k = true := by rw [Nat.testBit_and, Nat.testBit_two_pow, h]; simp
    have h2 : x &&& 2 ^ k ≠ 0 := fun e => by rw [e] at h1; simp at h1
    simpa using h2
  | false =>
    have h1 : x &&& 2 ^ k = 0 := by
      apply Nat.eq_of_testBit_eq
      intro i
      rw [Nat.testBit_and, Nat.testBit_two_pow, Nat.zero_testBit]
      by_cases hi : k = i
      · subst hi; simp [h]
      · simp [hi]
    simp [h1]
theorem has_any {s k : Nat} (hs : s < 65536) (hk : k < 16) (w : World) :
    Calls Tryd.prog 17 #[.int .u16 (s : Int), .int .i64 (k : Int)] w fun e w' => e = .returned (.bool (s.testBit k)) ∧ w' = w := by
  have HO := hide2 (fun w => only_any k hk w)
  have ha := and16 hs (pow16_lt hk)
  have hb := and_pow s k
  generalize s &&& 2 ^ k = c at *
  generalize 2 ^ k = q at *
  go_enter Tryd.func17, Tryd.ntmps17
  go_wp2_with fail
  refine (HO.out _).mono ?_
  rintro e w1 ⟨rfl, rfl⟩
  go_wp2
  go_ret
  refine ⟨ret_bool ?_, rfl⟩
  rw [← hb]
  cases c <;> rfl

theorem paths_in (d : Nat) (t : Int) (w : World) :
    CallsIn Fence.wide 5 Tryd.prog 16 #[.pointer (some ⟨d, 0, none⟩), .int .i64 t] w fun e w' => e = .returned (.func (.func 22) #[] #[.pointer (some ⟨w.heap.size + 1, 0, none⟩), .pointer (some ⟨w.heap.size, 0, none⟩)]) ∧ w' = (w.alloc (.cells #[.pointer (some ⟨d, 0, none⟩)] 24)).alloc (.cells #[.int .i64 t] 3) := by
  refine callsIn_of_wp Tryd.func16 rfl trivial ?_ rfl
  simp only [Tryd.ntmps16, List.size_toArray, List.length_cons, List.length_nil, Nat.reduceAdd, Nat.reduceSub, Array.replicate_succ, Array.replicate_zero, List.push_toArray, List.append_toArray, List.nil_append, List.cons_append]
  gi_wp2
  go_ret
  exact ⟨rfl, rfl⟩

/-- How a round's body may end. -/
def pathPost (Wt : List Nat) (t N : Nat) (I : World → Prop) (Ix : List Nat → Value → World → Prop) (p : List Nat) (v : Value) (A : World) : Exit → Act → World → Prop
  | .normal, _, A' => gE Wt (Lk.las p) t = false ∧ I A' ∧ A.heap.size ≤ A'.heap.size ∧ ∀ k, k < A.heap.size → A'.heap[k]? = A.heap[k]?
  | .ret, _, A' => gE Wt (Lk.las p) t = true ∧ Ix p v A' ∧ A.heap.size ≤ A'.heap.size ∧ ∀ k, N ≤ k → k < A.heap.size → A'.heap[k]? = A.heap[k]?
  | _, _, _ => False

theorem range_paths {g : Operand} {ps : Array Tmp} {assign body : Code} {Q : Exit → Act → World → Prop} {a : Act} {w : World} {d t Bw Bg : Nat} {Wt : List Nat} (ht : t < 16) (hE : Ev w d Wt t Bw Bg) (hlow : d < w.heap.size ∧ Bw < w.heap.size ∧ Bg < w.heap.size)
    (hg : a.eval g = .func (.func 22) #[] #[.pointer (some ⟨Bw, 0, none⟩), .pointer (some ⟨Bg, 0, none⟩)]) (hps : ps.size = 1)
    (I : World → Prop) (Ix : List Nat → Value → World → Prop) (hI : ∀ A B, I A → (∀ k, k < w.heap.size → B.heap[k]? = A.heap[k]?) → Io A B → I B) (hIx : ∀ p v A B, Ix p v A → w.heap.size ≤ A.heap.size → Kc w.heap.size A B → Ix p v B) (hI0 : I w) (a₁ : Value → Act)
    (hassign : ∀ (l : Nat) (v : Value) (A : World) (K : Act → World → Prop), K (a₁ v) A → assign.wpIn (Fence.wide.inRound l) 4 Tryd.prog (Exit.then K (fun _ _ _ => False)) { tmps := (ps.zip #[v]).foldl (fun t (p, v) => t.setIfInBounds p v) a.tmps, defers := [] } A)
    (hbody : ∀ (l : Nat) (p : List Nat) (v : Value) (A : World), I A → Ev A d Wt t Bw Bg → Hr A (w.heap.size + 2) v p → 0 < p.length → p.length ≤ 16 → Lk.las p < 16 → body.wpIn (Fence.wide.inRound l) 4 Tryd.prog (pathPost Wt t w.heap.size I Ix p v A) (a₁ v) A)
    (hdone : ∀ (D : Nat) (W : World), w.heap.size ≤ D → Lk.cyc (gE Wt) t = none → I W → W.heap[D]? = some (.deferred (some [])) → Q .normal { a with defers := mk D :: a.defers } W)
    (hstop : ∀ (D : Nat) (p : List Nat) (v : Value) (W : World), w.heap.size ≤ D → Lk.cyc (gE Wt) t = some p → Ix p v W → W.heap[D]? = some (.deferred (some [])) → Code.ret.wpIn Fence.wide 6 Tryd.prog Q { a with defers := mk D :: a.defers } W) :
    (Code.rangeFunc g ps assign body).wpIn Fence.wide 6 Tryd.prog Q a w := by
  refine wpIn_rangeFunc ?_
  intro fn hfn
  show ∃ l, _
  obtain ⟨rec, hrec⟩ : ∃ rec : LoopState → Option Code → Loop, rec = fun st pe => { state := st, pending := pe, fn, tmps := a.tmps, params := ps, assign, body, defers := w.heap.size } := ⟨_, rfl⟩
  obtain ⟨W1, hW1⟩ : ∃ W1, (w.alloc (.deferred (some []))).alloc (.loop (rec .ready none)) = W1 := ⟨_, rfl⟩
  have hL1 : W1.heap[w.heap.size + 1]? = some (.loop (rec .ready none)) := by
    rw [← hW1]; have := World.alloc_heap_new (w.alloc (.deferred (some []))) (.loop (rec .ready none)); rwa [World.size_alloc] at this
  have hK1 : W1.heap[w.heap.size]? = some (.deferred (some [])) := by
    rw [← hW1]; exact (Below.heap_alloc _ _ _ (by simp)).trans (World.alloc_heap_new w _)
  have hk1 : ∀ k, k < w.heap.size → W1.heap[k]? = w.heap[k]? := fun k hk => by rw [← hW1]; exact (Below.heap_alloc _ _ k (by simp; omega)).trans (Below.heap_alloc _ _ k hk)
  have hs1 : W1.heap.size = w.heap.size + 2 := by rw [← hW1]; simp
  have h00 := hE.tab.1
  have hE1 : Ev W1 d Wt t Bw Bg := hE.keep (by omega) (fun k hk => hk1 k (by rcases hk with rfl | rfl | rfl | rfl <;> omega))
  have hI1 : I W1 := hI _ _ hI0 hk1 (by rw [← hW1]; exact ⟨rfl, rfl, rfl⟩)
  refine ⟨w.heap.size + 1, [{ target := .collected w.heap.size, args := #[] }], W1, { target := .fn (.func 22) #[.pointer (some ⟨Bw, 0, none⟩), .pointer (some ⟨Bg, 0, none⟩)], args := #[.func (.yield (w.heap.size + 1)) #[] #[]] }, W1, 22,
    #[.func (.yield (w.heap.size + 1)) #[] #[]] ++ #[.pointer (some ⟨Bw, 0, none⟩), .pointer (some ⟨Bg, 0, none⟩)], W1, ?_, ?_, ?_, ?_, fun _ => by decide, ?_⟩
  · rw [← hW1, hrec]; exact run_enterLoop_outer _ _ _ _ _
  · simp only [resolve, hg]
    simp [go_sem]
  · intro f' _; exact trivial
  · have eg := enters_of Tryd.func22 (by kernel_rfl) rfl
    simp [invoke, go_sem, eg]
  · refine (paths1_in (w.heap.size + 1) Bw Bg d t Wt ht W1 hE1 (by omega) (by omega) (by omega) (by omega) (by omega)
      (fun A => I A ∧ A.heap[w.heap.size + 1]? = some (.loop (rec .ready none)) ∧ A.heap[w.heap.size]? = some (.deferred (some [])))
      (fun p v A => Ix p v A ∧ A.heap[w.heap.size + 1]? = some (.loop (rec .done (some .ret))) ∧ A.heap[w.heap.size]? = some (.deferred (some [])))
      (fun A B hA hk io => ⟨hI A B hA.1 (fun k hk2 => hk k (by omega)) io, (hk _ (by omega)).trans hA.2.1, (hk _ (by omega)).trans hA.2.2⟩)
      (fun p v A B hA hk => ⟨hIx p v A B hA.1 (by have := (Array.getElem?_eq_some_iff.1 hA.2.2).1; omega) ⟨hk.size, fun k hk2 => hk.low k (by omega), hk.cell, hk.io⟩, (hk.low _ (by omega)).trans hA.2.1, (hk.low _ (by omega)).trans hA.2.2⟩)
      ?_ ⟨hI1, hL1, hK1⟩).mono ?_
    · rintro p v A ⟨hi, hl, hk⟩ hev hr hp0 hp16 hlas
      have hlt : w.heap.size + 1 < A.heap.size := (Array.getElem?_eq_some_iff.1 hl).1
      have hy := run_yield (P := Tryd.prog) (args := #[v]) hl (by rw [hrec]; exact hps.symm)
      rw [hrec] at hy
      refine ⟨fn, _, assign, body, hy, roundIn_of_wpIn hfn (hassign _ v A _ ?_)⟩
      clear hy
      refine ⟨_, run_beginRound hl (by rw [hrec]), ?_⟩
      have hl2 : (A.putObj (w.heap.size + 1) (.loop { rec .ready none with state := .busy })).heap[w.heap.size + 1]? = some (.loop { rec .ready none with state := .busy }) := World.putObj_heap_same hlt
      have hk2 : (A.putObj (w.heap.size + 1) (.loop { rec .ready none with state := .busy })).heap[w.heap.size]? = some (.deferred (some [])) := (World.putObj_heap_other (by omega)).trans hk
      obtain ⟨A2, hA2⟩ : ∃ X, A.putObj (w.heap.size + 1) (.loop { rec .ready none with state := .busy }) = X := ⟨_, rfl⟩
      have ho2 : ∀ k, k ≠ w.heap.size + 1 → A2.heap[k]? = A.heap[k]? := fun k hk => by rw [← hA2]; exact World.putObj_heap_other hk
      have hz2 : A2.heap.size = A.heap.size := by rw [← hA2]; simp
      have hio2 : Io A A2 := by rw [← hA2]; exact ⟨rfl, rfl, rfl⟩
      rw [hA2] at hl2 hk2 ⊢
      have hkc : Kc w.heap.size A A2 := ⟨by omega, fun k hk => ho2 k (by omega), fun k cs ty f hk => ho2 k (fun e => by rw [e, hl] at hk; cases hk), hio2⟩
      have hr' : Hr A2 (w.heap.size + 2) v p := by rw [hs1] at hr; exact hkc.hr hr
      have hev2 : Ev A2 d Wt t Bw Bg := hev.keep (by omega) (fun k hk => ho2 k (by rcases hk with rfl | rfl | rfl | rfl <;> omega))
      refine wpIn_mono (hbody _ p v A2 (hI _ _ hi (fun k hk => ho2 k (by omega)) hio2) hev2 hr' hp0 hp16 hlas) ?_
      rintro e a3 W3 hpost
      cases e with
      | normal =>
        obtain ⟨hb, hi3, hz3, hs3⟩ := hpost
        have hl3 := (hs3 _ (by omega)).trans hl2
        have hk3 := (hs3 _ (by omega)).trans hk2
        have hrun := run_endRound (P := Tryd.prog) none hl3
        rw [hrec] at hrun ⊢
        have hlt3 : w.heap.size + 1 < W3.heap.size := by omega
        refine ⟨_, _, hrun, .inl ⟨rfl, hb, ⟨hI _ _ hi3 (fun k hk => World.putObj_heap_other (by omega)) ⟨rfl, rfl, rfl⟩, World.putObj_heap_same hlt3, (World.putObj_heap_other (by omega)).trans hk3⟩, ⟨by simp; omega, fun k hk hk4 => ?_⟩⟩⟩
        exact ((World.putObj_heap_other hk).trans (hs3 k (by omega))).trans (ho2 k hk)
      | ret =>
        obtain ⟨hb, hi3, hz3, hs3⟩ := hpost
        have hl3 := (hs3 _ (by omega) (by omega)).trans hl2
        have hk3 := (hs3 _ (Nat.le_refl _) (by omega)).trans hk2
        have hrun := run_endRound (P := Tryd.prog) (some .ret) hl3
        rw [hrec] at hrun ⊢
        have hlt3 : w.heap.size + 1 < W3.heap.size := by omega
        refine ⟨_, _, hrun, .inr ⟨rfl, hb, ⟨hIx _ _ _ _ hi3 (by omega) ⟨by simp, fun k hk => World.putObj_heap_other (by omega), fun k cs ty f hk => World.putObj_heap_other (fun e => by rw [e, hl3] at hk; cases hk), ⟨rfl, rfl, rfl⟩⟩, World.putObj_heap_same hlt3, (World.putObj_heap_other (by omega)).trans hk3⟩, by simp; omega, fun k hk hk4 => ?_⟩⟩
        exact ((World.putObj_heap_other (by omega)).trans (hs3 k (by omega) (by omega))).trans (ho2 k (by omega))
      | exit id => exact hpost.elim
      | goto t => exact hpost.elim
      | panic ch => exact hpost.elim
      | outgrown => exact hpost.elim
    · rintro e W2 ⟨⟨v, rfl⟩, (⟨hc, hi, hl, hk⟩ | ⟨p, v, hc, hi, hl, hk⟩)⟩
      · refine ⟨none, _, by have := run_endLoop (P := Tryd.prog) hl (by rw [hrec]; simp); rw [hrec] at this; exact this, ?_⟩
        exact hdone _ _ (Nat.le_refl _) hc (hI _ _ hi (fun k hk => World.putObj_heap_other (by omega)) ⟨rfl, rfl, rfl⟩) ((World.putObj_heap_other (by omega)).trans hk)
      · refine ⟨some .ret, _, by have := run_endLoop (P := Tryd.prog) hl (by rw [hrec]; simp); rw [hrec] at this; exact this, ?_⟩
        exact hstop _ p v _ (Nat.le_refl _) hc (hIx _ _ _ _ hi (by have := (Array.getElem?_eq_some_iff.1 hk).1; omega) ⟨by simp, fun k hk => World.putObj_heap_other (by omega), fun k cs ty f hk => World.putObj_heap_other (fun e => by rw [e, hl] at hk; cases hk), ⟨rfl, rfl, rfl⟩⟩) ((World.putObj_heap_other (by omega)).trans hk)
end
end Go.Proofs.YtafbchjmjfpilaaDoor
