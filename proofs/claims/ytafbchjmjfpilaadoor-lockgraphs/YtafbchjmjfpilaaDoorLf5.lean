/-
  Lf5: (*Graph).Cycle of a graph: the cycle that the document tells.
-/
import Derived.Test.YtafbchjmjfpilaaDoorLf4
set_option linter.unusedVariables false
set_option linter.unusedSimpArgs false
namespace Go.Proofs.YtafbchjmjfpilaaDoor
open Go.RowKit Go.Shelf
attribute [local go_sem] Oper.semAt_some

/-- What Cycle answers. -/
def CycR (Wt : List Nat) (t : Nat) (w' : World) (base : Nat) (e : Ending) : Prop :=
  (Lk.cyc (gE Wt) t = none ∧ e = .returned (.tuple #[.slice none 0 0, .bool false])) ∨ ∃ p v, Lk.cyc (gE Wt) t = some p ∧ e = .returned (.tuple #[v, .bool true]) ∧ Hr w' base v p

section
set_option maxHeartbeats 4000000
set_option maxRecDepth 100000
theorem cycle_ok {w : World} {d t : Nat} {Wt : List Nat} (hG : Gm w d Wt) (hT : Tab w) (ht : t < 16) :
    Calls Tryd.prog 9 #[.pointer (some ⟨d, 0, none⟩), .int .i64 (t : Int)] w fun e w' => CycR Wt t w' w.heap.size e ∧ Below w.heap.size w w' := by
  have HW := hide2 (fun w => isWorker_any (t : Int) w)
  rw [isW_nat ht] at HW
  have hdl := hG.lt
  have b0 := ((((((Boxed.new w 24 (.pointer (some ⟨d, 0, none⟩))).alloc (.cells #[.int .i64 (t : Int)] 3)).alloc (.cells #[.slice none 0 0] 33)).alloc (.cells #[.bool false] 4)).alloc (.cells #[.pointer (some ⟨d, 0, none⟩)] 24)).alloc (.cells #[.int .i64 (t : Int)] 3))
  have b1 := (((((Boxed.new (w.alloc (.cells #[.pointer (some ⟨d, 0, none⟩)] 24)) 3 (.int .i64 (t : Int)))).alloc (.cells #[.slice none 0 0] 33)).alloc (.cells #[.bool false] 4)).alloc (.cells #[.pointer (some ⟨d, 0, none⟩)] 24)).alloc (.cells #[.int .i64 (t : Int)] 3)
  have b2 := (((Boxed.new ((w.alloc (.cells #[.pointer (some ⟨d, 0, none⟩)] 24)).alloc (.cells #[.int .i64 (t : Int)] 3)) 33 (.slice none 0 0)).alloc (.cells #[.bool false] 4)).alloc (.cells #[.pointer (some ⟨d, 0, none⟩)] 24)).alloc (.cells #[.int .i64 (t : Int)] 3)
  have b3 := ((Boxed.new (((w.alloc (.cells #[.pointer (some ⟨d, 0, none⟩)] 24)).alloc (.cells #[.int .i64 (t : Int)] 3)).alloc (.cells #[.slice none 0 0] 33)) 4 (.bool false)).alloc (.cells #[.pointer (some ⟨d, 0, none⟩)] 24)).alloc (.cells #[.int .i64 (t : Int)] 3)
  have b4 := (Boxed.new ((((w.alloc (.cells #[.pointer (some ⟨d, 0, none⟩)] 24)).alloc (.cells #[.int .i64 (t : Int)] 3)).alloc (.cells #[.slice none 0 0] 33)).alloc (.cells #[.bool false] 4)) 24 (.pointer (some ⟨d, 0, none⟩))).alloc (.cells #[.int .i64 (t : Int)] 3)
  have b5 := Boxed.new (((((w.alloc (.cells #[.pointer (some ⟨d, 0, none⟩)] 24)).alloc (.cells #[.int .i64 (t : Int)] 3)).alloc (.cells #[.slice none 0 0] 33)).alloc (.cells #[.bool false] 4)).alloc (.cells #[.pointer (some ⟨d, 0, none⟩)] 24)) 3 (.int .i64 (t : Int))
  simp only [World.size_alloc] at b0 b1 b2 b3 b4 b5
  have hBV : Below w.heap.size w ((((((w.alloc (.cells #[.pointer (some ⟨d, 0, none⟩)] 24)).alloc (.cells #[.int .i64 (t : Int)] 3)).alloc (.cells #[.slice none 0 0] 33)).alloc (.cells #[.bool false] 4)).alloc (.cells #[.pointer (some ⟨d, 0, none⟩)] 24)).alloc (.cells #[.int .i64 (t : Int)] 3)) := ((((below2 w _ _).alloc (by simp; omega) _).alloc (by simp; omega) _).alloc (by simp; omega) _).alloc (by simp; omega) _
  have B0 := hide2 b0
  have B1 := hide2 b1
  have B2 := hide2 b2
  have B3 := hide2 b3
  have B4 := hide2 b4
  have B5 := hide2 b5
  have HBV := hide2 hBV
  clear b0 b1 b2 b3 b4 b5 hBV
  refine (callsIn_wide (n := 6)).1 ?_
  refine callsIn_of_wp_marks Tryd.func9 rfl trivial ?_ rfl
  simp only [Tryd.ntmps9, List.size_toArray, List.length_cons, List.length_nil, Nat.reduceAdd, Nat.reduceSub, Array.replicate_succ, Array.replicate_zero, List.push_toArray, List.append_toArray, List.nil_append, List.cons_append]
  gi_wp2
  refine ⟨trivial, ?_⟩
  refine (callsIn_wide.2 (HW.out _)).mono ?_
  rintro e w1 ⟨rfl, rfl⟩
  gi_wp2
  refine ⟨trivial, ?_⟩
  refine (paths_in d (t : Int) _).mono ?_
  rintro e w1 ⟨rfl, rfl⟩
  gi_wp2
  have hVs : (((((((w.alloc (.cells #[.pointer (some ⟨d, 0, none⟩)] 24)).alloc (.cells #[.int .i64 (t : Int)] 3)).alloc (.cells #[.slice none 0 0] 33)).alloc (.cells #[.bool false] 4)).alloc (.cells #[.pointer (some ⟨d, 0, none⟩)] 24)).alloc (.cells #[.int .i64 (t : Int)] 3))).heap.size = w.heap.size + 6 := by simp
  obtain ⟨V, hV⟩ : ∃ V, ((((((w.alloc (.cells #[.pointer (some ⟨d, 0, none⟩)] 24)).alloc (.cells #[.int .i64 (t : Int)] 3)).alloc (.cells #[.slice none 0 0] 33)).alloc (.cells #[.bool false] 4)).alloc (.cells #[.pointer (some ⟨d, 0, none⟩)] 24)).alloc (.cells #[.int .i64 (t : Int)] 3)) = V := ⟨_, rfl⟩
  rw [hV] at B0 B1 B2 B3 B4 B5 HBV hVs ⊢
  clear hV HW
  have h00 := hT.1
  have hEV : Ev V d Wt t (w.heap.size + 1 + 1 + 1 + 1 + 1) (w.heap.size + 1 + 1 + 1 + 1) := ⟨hT.keep HBV.out, hG.keep (HBV.out.block _ hdl), B5.out, B4.out⟩
  refine range_paths ht hEV (by omega) rfl rfl
    (fun A => (∀ k, k < V.heap.size → A.heap[k]? = V.heap[k]?) ∧ Io V A)
    (fun p v A => Boxed A (w.heap.size + 1 + 1) 33 v ∧ Boxed A (w.heap.size + 1 + 1 + 1) 4 (.bool true) ∧ (∀ k, k < w.heap.size → A.heap[k]? = V.heap[k]?) ∧ Io V A ∧ Hr A (V.heap.size + 2) v p ∧ V.heap.size ≤ A.heap.size)
    (fun A B hA hk io => ⟨fun k hk2 => (hk k hk2).trans (hA.1 k hk2), hA.2.trans io⟩)
    (fun p v A B h hs kc => ⟨kc.boxed h.1, kc.boxed h.2.1, fun k hk => (kc.low k (by omega)).trans (h.2.2.1 k hk), h.2.2.2.1.trans kc.io, kc.hr h.2.2.2.2.1, Nat.le_trans h.2.2.2.2.2 kc.size⟩)
    ⟨fun _ _ => rfl, ⟨rfl, rfl, rfl⟩⟩
    (fun v => { tmps := #[.pointer (some ⟨d, 0, none⟩), .int .i64 (t : Int), .pointer (some ⟨w.heap.size, 0, none⟩), .pointer (some ⟨w.heap.size + 1, 0, none⟩), .pointer (some ⟨w.heap.size + 1 + 1, 0, none⟩), .pointer (some ⟨w.heap.size + 1 + 1 + 1, 0, none⟩), v, .pointer (some ⟨d, 0, none⟩), .bool false, .bool false, .int .i64 (t : Int), .bool true, .bool false, .bool false, .pointer (some ⟨d, 0, none⟩), .int .i64 (t : Int), .func (.func 22) #[] #[.pointer (some ⟨w.heap.size + 1 + 1 + 1 + 1 + 1, 0, none⟩), .pointer (some ⟨w.heap.size + 1 + 1 + 1 + 1, 0, none⟩)], v, undef, undef, undef, undef, undef, undef, undef, undef, undef, undef, undef, undef, undef, undef], defers := [] }) ?assign ?body ?done ?stop
  case assign =>
    intro ll x W K hK
    gi_wp2
    exact hK
  case body =>
    rintro ll p v A ⟨hA, hio⟩ hEA hhr hp0 hp16 hlas
    have hVA : V.heap.size ≤ A.heap.size := by
      have q := (hA (V.heap.size - 1) (by omega)).trans (Array.getElem?_eq_getElem (show V.heap.size - 1 < V.heap.size by omega))
      have := (Array.getElem?_eq_some_iff.1 q).1
      omega
    obtain ⟨ax, cx, hv, hcx⟩ := hhr.form
    subst hv
    obtain ⟨gp, eax, hgp, hgpl, hpc⟩ := hhr.cell hp0
    subst eax
    obtain ⟨m, hm⟩ : ∃ m, p.length = m + 1 := ⟨p.length - 1, by omega⟩
    have b0 : Boxed A w.heap.size 24 (.pointer (some ⟨d, 0, none⟩)) := (hA _ (by omega)).trans B0.out
    have b1 : Boxed A (w.heap.size + 1) 3 (.int .i64 (t : Int)) := (hA _ (by omega)).trans B1.out
    have b2 : Boxed A (w.heap.size + 1 + 1) 33 (.slice none 0 0) := (hA _ (by omega)).trans B2.out
    have b3 : Boxed A (w.heap.size + 1 + 1 + 1) 4 (.bool false) := (hA _ (by omega)).trans B3.out
    have q1 := b0.cell
    have q2 := b1.cell
    have q3 : A.cell? ⟨gp, m, none⟩ = some (.int .i64 (Lk.las p : Int)) := by have := hpc m (by omega); rw [las_get hm] at this; exact this
    have q4 := hEA.gm.cell hlas
    have q5 := b2.cell
    have q6 := b3.cell
    have f5 := b2.frozen
    have f6 := b3.frozen
    have hnx := hEA.gm.sm (Lk.las p)
    have hdl2 : (Lk.las p : Int) < 16 := by omega
    have hsub : (m : Int) + 1 - 1 = (m : Int) := by omega
    have mixed : Tryd.prog.follows .mixedOrders = true := by kernel_rfl
    have hfn : Fence.wide.fn 17 := trivial
    have HHAS := hide2 (fun u => has_any hnx ht u)
    have HGE : Hid (gE Wt (Lk.las p) t = (Wt.getD (Lk.las p) 0).testBit t) := hide2 rfl
    have HX : Hid (∀ q, CallsIn Fence.wide 3 Tryd.prog 17 #[.int .u16 (Wt.getD (Lk.las p) 0 : Nat), .int .i64 (t : Int)] (A.drewN q) fun e w'' => e = .returned (.bool ((Wt.getD (Lk.las p) 0).testBit t)) ∧ ∃ n, w'' = A.drewN n) := hide2 (fun q => callsIn_wide.2 ((HHAS.out (A.drewN q)).mono (fun e w' h => ⟨h.1, q, h.2⟩)))
    have HKEEP : Hid (∀ q, (fun A => (∀ k, k < V.heap.size → A.heap[k]? = V.heap[k]?) ∧ Io V A) (A.drewN q) ∧ A.heap.size ≤ (A.drewN q).heap.size ∧ ∀ k, k < A.heap.size → (A.drewN q).heap[k]? = A.heap[k]?) := hide2 (fun q => ⟨⟨hA, hio⟩, Nat.le_refl _, fun _ _ => rfl⟩)
    have HFIN : Hid (∀ q, (Boxed (((A.drewN q).setCell ⟨w.heap.size + 1 + 1, 0, none⟩ (.slice (some ⟨gp, 0, none⟩) p.length cx)).setCell ⟨w.heap.size + 1 + 1 + 1, 0, none⟩ (.bool true)) (w.heap.size + 1 + 1) 33 (.slice (some ⟨gp, 0, none⟩) p.length cx) ∧
        Boxed (((A.drewN q).setCell ⟨w.heap.size + 1 + 1, 0, none⟩ (.slice (some ⟨gp, 0, none⟩) p.length cx)).setCell ⟨w.heap.size + 1 + 1 + 1, 0, none⟩ (.bool true)) (w.heap.size + 1 + 1 + 1) 4 (.bool true) ∧
        (∀ k, k < w.heap.size → (((A.drewN q).setCell ⟨w.heap.size + 1 + 1, 0, none⟩ (.slice (some ⟨gp, 0, none⟩) p.length cx)).setCell ⟨w.heap.size + 1 + 1 + 1, 0, none⟩ (.bool true)).heap[k]? = V.heap[k]?) ∧
        Io V (((A.drewN q).setCell ⟨w.heap.size + 1 + 1, 0, none⟩ (.slice (some ⟨gp, 0, none⟩) p.length cx)).setCell ⟨w.heap.size + 1 + 1 + 1, 0, none⟩ (.bool true)) ∧
        Hr (((A.drewN q).setCell ⟨w.heap.size + 1 + 1, 0, none⟩ (.slice (some ⟨gp, 0, none⟩) p.length cx)).setCell ⟨w.heap.size + 1 + 1 + 1, 0, none⟩ (.bool true)) (V.heap.size + 2) (.slice (some ⟨gp, 0, none⟩) p.length cx) p ∧
        V.heap.size ≤ (((A.drewN q).setCell ⟨w.heap.size + 1 + 1, 0, none⟩ (.slice (some ⟨gp, 0, none⟩) p.length cx)).setCell ⟨w.heap.size + 1 + 1 + 1, 0, none⟩ (.bool true)).heap.size) ∧
        A.heap.size ≤ (((A.drewN q).setCell ⟨w.heap.size + 1 + 1, 0, none⟩ (.slice (some ⟨gp, 0, none⟩) p.length cx)).setCell ⟨w.heap.size + 1 + 1 + 1, 0, none⟩ (.bool true)).heap.size ∧
        ∀ k, V.heap.size ≤ k → k < A.heap.size → (((A.drewN q).setCell ⟨w.heap.size + 1 + 1, 0, none⟩ (.slice (some ⟨gp, 0, none⟩) p.length cx)).setCell ⟨w.heap.size + 1 + 1 + 1, 0, none⟩ (.bool true)).heap[k]? = A.heap[k]?) := hide2 (fun q => by
      have b2' : Boxed (A.drewN q) (w.heap.size + 1 + 1) 33 (.slice none 0 0) := b2
      have b3' : Boxed (A.drewN q) (w.heap.size + 1 + 1 + 1) 4 (.bool false) := b3
      obtain ⟨Z, hZ⟩ : ∃ Z, ((A.drewN q).setCell ⟨w.heap.size + 1 + 1, 0, none⟩ (.slice (some ⟨gp, 0, none⟩) p.length cx)).setCell ⟨w.heap.size + 1 + 1 + 1, 0, none⟩ (.bool true) = Z := ⟨_, rfl⟩
      have z2 : Boxed Z (w.heap.size + 1 + 1) 33 (.slice (some ⟨gp, 0, none⟩) p.length cx) := by rw [← hZ]; exact (b2'.set _).other (by omega) _
      have z3 : Boxed Z (w.heap.size + 1 + 1 + 1) 4 (.bool true) := by rw [← hZ]; exact (b3'.other (by omega) _).set _
      have zo : ∀ k, k ≠ w.heap.size + 1 + 1 → k ≠ w.heap.size + 1 + 1 + 1 → Z.heap[k]? = A.heap[k]? := fun k h1 h2 => by rw [← hZ]; exact (Below.heap_setCell _ _ _ k h2).trans (Below.heap_setCell _ _ _ k h1)
      have zs : Z.heap.size = A.heap.size := by rw [← hZ]; simp [World.setCell]
      have zi : Io A Z := by rw [← hZ]; exact ⟨rfl, rfl, rfl⟩
      rw [hZ]
      refine ⟨⟨z2, z3, fun k hk => (zo k (by omega) (by omega)).trans (hA k (by omega)), hio.trans zi, ?_, by omega⟩, by omega, fun k hk _ => zo k (by omega) (by omega)⟩
      refine ⟨hhr.1, ?_⟩
      rcases hhr.2 with q | ⟨g, cap, cur, e, hbs, hg, r⟩
      · exact .inl q
      · exact .inr ⟨g, cap, cur, e, hbs, (zo g (by omega) (by omega)).trans hg, r⟩)
    have HM := hide2 hm
    clear hpc hA hio hEA hhr b0 b1 b2 b3 HHAS
    generalize elas : Lk.las p = lp at *
    generalize enx : Wt.getD lp 0 = nx at *
    rw [hm] at HFIN ⊢
    cases htb : nx.testBit t with
    | true =>
      rw [htb] at HX HGE
      gi_wp2
      refine round_region ll (by kernel_rfl) (by kernel_rfl) (by kernel_rfl) ?_
      repeat (gi_big_quiet_step (fail))
      gi_big_quiet_step (exact HX.out _)
      repeat (gi_big_quiet_step (fail))
      refine wpQuietIn_nil ?_
      intro W' hW'
      obtain ⟨nq, hq⟩ := hW'
      subst hq
      gi_wp2
      obtain ⟨h1, h2, h3⟩ := HFIN.out nq
      refine ⟨by rw [elas]; exact HGE.out, h1, h2, h3⟩
    | false =>
      rw [htb] at HX HGE
      gi_wp2
      refine round_region ll (by kernel_rfl) (by kernel_rfl) (by kernel_rfl) ?_
      repeat (gi_big_quiet_step (fail))
      gi_big_quiet_step (exact HX.out _)
      repeat (gi_big_quiet_step (fail))
      refine wpQuietIn_nil ?_
      intro W' hW'
      obtain ⟨nq, hq⟩ := hW'
      subst hq
      gi_wp2
      obtain ⟨h1, h2, h3⟩ := HKEEP.out nq
      refine ⟨by rw [elas]; exact HGE.out, h1, h2, h3⟩
  case done =>
    rintro D W hD hno ⟨hW, hio⟩ hK
    have b2 : Boxed W (w.heap.size + 1 + 1) 33 (.slice none 0 0) := (hW _ (by omega)).trans B2.out
    have b3 : Boxed W (w.heap.size + 1 + 1 + 1) 4 (.bool false) := (hW _ (by omega)).trans B3.out
    have q5 := b2.cell
    have q6 := b3.cell
    have f5 := b2.frozen
    have f6 := b3.frozen
    gi_wp2
    obtain ⟨Z, hZ⟩ : ∃ Z, (W.setCell ⟨w.heap.size + 1 + 1, 0, none⟩ (.slice none 0 0)).setCell ⟨w.heap.size + 1 + 1 + 1, 0, none⟩ (.bool false) = Z := ⟨_, rfl⟩
    have z2 : Boxed Z (w.heap.size + 1 + 1) 33 (.slice none 0 0) := by rw [← hZ]; exact (b2.set _).other (by omega) _
    have z3 : Boxed Z (w.heap.size + 1 + 1 + 1) 4 (.bool false) := by rw [← hZ]; exact (b3.other (by omega) _).set _
    have zo : ∀ k, k ≠ w.heap.size + 1 + 1 → k ≠ w.heap.size + 1 + 1 + 1 → Z.heap[k]? = W.heap[k]? := fun k h1 h2 => by rw [← hZ]; exact (Below.heap_setCell _ _ _ k h2).trans (Below.heap_setCell _ _ _ k h1)
    have zs : Z.heap.size = W.heap.size := by rw [← hZ]; simp [World.setCell]
    have zi : Io W Z := by rw [← hZ]; exact ⟨rfl, rfl, rfl⟩
    rw [hZ]
    have hDl := (Array.getElem?_eq_some_iff.1 hK).1
    refine leave_marks (v := .tuple #[.slice none 0 0, .bool false]) (base := w.heap.size) [D] Z ⟨by simp, fun D' hD' => ?_⟩ (by omega) (fun w' k => ?_)
    · rw [List.mem_singleton.1 hD']
      exact ⟨by omega, (zo D (by omega) (by omega)).trans hK⟩
    · have y0 := (k.boxed z2).cell
      have y1 := (k.boxed z3).cell
      refine ⟨by simp [results, Tryd.results9, go_sem, y0, y1], .inl ⟨hno, rfl⟩, ?_⟩
      have i3 := (hio.trans zi).trans k.io
      have ks := k.size
      exact HBV.out.trans ⟨i3.1, i3.2.1, i3.2.2, by omega, fun x hx => ((k.low x hx).trans (zo x (by omega) (by omega))).trans (hW x (by omega))⟩
  case stop =>
    rintro D p v W hD hsome ⟨b2, b3, hW, hio, hhr, hsz⟩ hK
    gi_wp2
    have hDl := (Array.getElem?_eq_some_iff.1 hK).1
    refine leave_marks (v := .tuple #[v, .bool true]) (base := w.heap.size) [D] W ⟨by simp, fun D' hD' => ?_⟩ (by omega) (fun w' k => ?_)
    · rw [List.mem_singleton.1 hD']
      exact ⟨by omega, hK⟩
    · have y0 := (k.boxed b2).cell
      have y1 := (k.boxed b3).cell
      refine ⟨by simp [results, Tryd.results9, go_sem, y0, y1], .inr ⟨p, v, hsome, rfl, (k.hr hhr).low (by omega)⟩, ?_⟩
      have i3 := hio.trans k.io
      have ks := k.size
      exact HBV.out.trans ⟨i3.1, i3.2.1, i3.2.2, by omega, fun x hx => (k.low x hx).trans (hW x hx)⟩
end
end Go.Proofs.YtafbchjmjfpilaaDoor
