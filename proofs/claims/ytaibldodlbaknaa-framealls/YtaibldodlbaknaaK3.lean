/-
  The walk of the law FrameAlls.
-/
import Derived.Test.YtaibldodlbaknaaK2
import Derived.Test.YtaibldodlbaknaaG5
set_option linter.unusedVariables false
set_option linter.unusedSimpArgs false
namespace Go.Proofs.Ytaibldodlbaknaa
open Go.RowKit

/-- Bodies that lie higher are not felt. -/
theorem Bs.low {w w' : World} {base g : Nat} {v : Value} {bs : List (List Int)} (h : Bs w base v bs) (hg : w.grownBy w' (some g)) (hlt : g < base) : Bs w' base v bs := by
  obtain ⟨cs, G, h1, h2, h3⟩ := h
  refine ⟨cs, G, World.ownsRow.kept h1 hg ?_, fun i hi => ?_, h3⟩
  · cases hv : v.ownBlock with
    | none => exact .inl rfl
    | some j =>
      right
      have := (World.ownsRow.lt h1 j hv).1
      intro e
      simp only [Option.some.injEq] at e
      omega
  · obtain ⟨u, e, hd⟩ := h2 i hi
    exact ⟨u, e, hd.grown hg (by have := hd.1; simp; omega)⟩

/-- The bodies from a place on. -/
def Fm (w : World) (base : Nat) (v : Value) (bs : List (List Int)) (cs : List Value) (G : Nat → Nat) (i : Nat) : Prop :=
  w.ownsRow base 22 1 v bs.length cs ∧ ∀ j, i ≤ j → j < bs.length → ∃ u, cs[j]? = some u ∧ Bd w base (G j) u (bs.getD j [])

theorem Fm.next {w w' : World} {base : Nat} {v : Value} {bs : List (List Int)} {cs : List Value} {G : Nat → Nat} {i : Nat} (h : Fm w base v bs cs G i) (hi : i < bs.length) (hG : ∀ i j, i < j → j < bs.length → G i < G j) (hg : w.grownBy w' (some (G i))) : Fm w' base v bs cs G (i + 1) := by
  obtain ⟨h1, h2⟩ := h
  obtain ⟨u0, _, hd0⟩ := h2 i (Nat.le_refl _) hi
  refine ⟨World.ownsRow.kept h1 hg ?_, fun j hj hjl => ?_⟩
  · have := row_ne h1 hd0
    right
    exact fun e => this e.symm
  · obtain ⟨u, e, hd⟩ := h2 j (by omega) hjl
    refine ⟨u, e, hd.grown hg ?_⟩
    have := hG i j (by omega) hjl
    simp
    omega
theorem Fm.drewN {w : World} {base : Nat} {v : Value} {bs : List (List Int)} {cs : List Value} {G : Nat → Nat} {i : Nat} (h : Fm w base v bs cs G i) (q : Nat) : Fm (w.drewN q) base v bs cs G i := by
  obtain ⟨h1, h2⟩ := h
  refine ⟨h1, fun j hj hjl => ?_⟩
  obtain ⟨u, e, hd⟩ := h2 j hj hjl
  exact ⟨u, e, hd.drewN q⟩
theorem Bs.drewN {w : World} {base : Nat} {v : Value} {bs : List (List Int)} (h : Bs w base v bs) (q : Nat) : Bs (w.drewN q) base v bs := by
  obtain ⟨cs, G, h1, h2, h3⟩ := h
  refine ⟨cs, G, h1, fun i hi => ?_, h3⟩
  obtain ⟨u, e, hd⟩ := h2 i hi
  exact ⟨u, e, hd.drewN q⟩
theorem Ln.drewN {w : World} {base g len c : Nat} {xs : List Int} (h : Ln w base g len c xs) (q : Nat) : Ln (w.drewN q) base g len c xs := h

theorem rowCell {w : World} {base n : Nat} {av : Option Addr} {c l : Nat} {cs : List Value} (h : w.ownsRow base 22 1 (.slice av l c) n cs) (i : Nat) (hi : i < n) (u : Value) (hu : cs[i]? = some u) : ∃ g, av = some ⟨g, 0, none⟩ ∧ w.cell? ⟨g, i, none⟩ = some u := by
  rcases h.2 with ⟨e, h0⟩ | ⟨g, cap2, cur, e, rest⟩
  · omega
  · simp only [Value.slice.injEq] at e
    obtain ⟨rfl, rfl, rfl⟩ := e
    refine ⟨g, rfl, ?_⟩
    rw [World.ownsRow.cellAt h i (by omega)]
    exact hu

set_option maxHeartbeats 4000000 in
theorem alls_walk (ao : Option Addr) (len cap : Nat) (xs : List Int) (first : Int) (w : World) (h : Sl w ao len cap xs) (h0 : 0 ≤ first) (h1 : first ≤ 18446744073709551615) (hl : len + 1 ≤ 140737488355328) :
    Calls Try.prog 5 #[.slice ao len cap, .int .u64 first] w fun e w' => e = .returned (.bool true) ∧ Below w.heap.size w w' := by
  have hx := h.1
  have hbyt := h.2.2.2.1
  go_enter Try.func5, Try.ntmps5
  go_wp2_with fail
  refine (shown_any w).mono ?_
  rintro e w1 ⟨rfl, hb1⟩
  have hA1 := h.below hb1
  replace h := hF h
  go_wp2_with fail
  refine (lent_any ao len cap xs w1 hA1 hl).mono ?_
  rintro e w2 ⟨g2, c2, rfl, hL2, hb2⟩
  have hb02 := hb1.trans (hb2.mono hb1.size)
  clear hA1 hb1 hb2
  go_wp2_with fail
  refine (all_any _ len c2 xs first w2 hL2.sl (by omega) h0 h1).mono ?_
  rintro e w3 ⟨⟨bs, a, f, p1, p2, p3⟩, hb3⟩
  have hL3 := hL2.below hb3
  have hg2 := hL2.lt
  have hb03 := hb02.trans (hb3.mono hb02.size)
  have hA3 := h.out.below hb03
  have href := refAll_any ao len cap xs first w3 hA3 (by omega) h0 h1
  clear hL2
  rcases p3 with ⟨hL, rfl⟩ | ⟨hL, v3, rfl, hBs⟩
  · have href2 : Calls Try.prog 18 #[.slice ao len cap, .int .u64 first] w3 fun e w' => e = .returned (.tuple #[.slice none 0 0, .int .i64 0, .int .i64 41]) ∧ Below w3.heap.size w3 w' := by
      refine href.mono ?_
      rintro e w' ⟨⟨bs', a', f', q1, q2, q3⟩, hb⟩
      obtain ⟨rfl, rfl, rfl⟩ := goes_det _ _ _ _ _ _ _ _ _ p1 q1 p2 q2
      refine ⟨?_, hb⟩
      rcases q3 with ⟨_, e⟩ | ⟨hn, _⟩
      · exact e
      · exact absurd hL hn
    replace href2 := hF href2
    clear href p1 p2 hL
    go_wp2_with fail
    refine href2.out.mono ?_
    rintro e w4 ⟨rfl, hb4⟩
    have hL4 := hL3.below hb4
    have hb04 := hb03.trans (hb4.mono hb03.size)
    have hA4 := h.out.below hb04
    clear href2 hL3 hb03 hb4 hA3
    go_wp2
    refine wp_loop_rounds 1 ?_
    rw [rounds_succ]
    go_wp2_with fail
    refine (kept_any _ g2 len c2 ao cap xs w4 hA4 hL4).mono ?_
    rintro e w6 ⟨rfl, rfl⟩
    clear hA4 hL4
    go_wp2
    go_ret
    exact ⟨by first | rfl | (simp; done), hb04⟩
  · have href2 : Calls Try.prog 18 #[.slice ao len cap, .int .u64 first] w3 fun e w' => (∃ v, e = .returned (.tuple #[v, .int .i64 (a : Int), .int .i64 0]) ∧ Bs w' w3.heap.size v bs) ∧ Below w3.heap.size w3 w' := by
      refine href.mono ?_
      rintro e w' ⟨⟨bs', a', f', q1, q2, q3⟩, hb⟩
      obtain ⟨rfl, rfl, rfl⟩ := goes_det _ _ _ _ _ _ _ _ _ p1 q1 p2 q2
      refine ⟨?_, hb⟩
      rcases q3 with ⟨hn, _⟩ | ⟨_, e⟩
      · exact absurd hn hL
      · exact e
    replace href2 := hF href2
    clear href p1 p2 hL
    go_wp2_with fail
    refine href2.out.mono ?_
    rintro e w4 ⟨⟨v4, rfl, hBm⟩, hb4⟩
    have hL4 := hL3.below hb4
    have hb04 := hb03.trans (hb4.mono hb03.size)
    have hBs4 := hBs.below hb4
    have hs3 := hb03.size
    obtain ⟨av, cv, rfl⟩ := hBs.len
    obtain ⟨am, cm, rfl⟩ := hBm.len
    obtain ⟨cs, G, q1, q2, q3⟩ := hBs
    have hGl : Hid (∀ i, i < bs.length → G i < w3.heap.size) := fun i hi => by
      obtain ⟨u, _, hd⟩ := q2 i hi
      exact hd.lt
    have hF4 : Fm w4 w2.heap.size (.slice av bs.length cv) bs cs G 0 := ⟨row_up q1 hb4, fun j _ hj => by
      obtain ⟨u, e, hd⟩ := q2 j hj
      exact ⟨u, e, hd.below hb4⟩⟩
    obtain ⟨n, hn⟩ : ∃ n, n = bs.length := ⟨_, rfl⟩
    have hni : (n : Int) ≤ 9223372036854775807 := by
      rcases q1.2 with ⟨_, z⟩ | ⟨g, cap2, cur, e, _, _, z1, z2, _⟩
      · omega
      · unfold maxLen at z2; omega
    clear href2 hL3 hb4 hA3 hBs4 q1 q2
    replace q3 := hF q3
    have HN := hF hn
    clear hn
    have e1 : bs.length = n := HN.out.symm
    rw [e1] at hF4 hBm ⊢
    have hBm' := hBm
    clear e1 hBm
    have hFm0 := hF4
    go_wp2
    go_loopw [13] (fun i wr => ∃ k : Nat, k ≤ n ∧ i = .int .i64 (k : Int) ∧ Fm wr w2.heap.size (.slice av n cv) bs cs G k ∧ Bs wr w3.heap.size (.slice am n cm) bs ∧ Ln wr w1.heap.size g2 len c2 xs ∧ Below w.heap.size w wr) (fun i _ => n - (intOf i).toNat)
    case atStart => exact ⟨0, by omega, rfl, hFm0, hBm', hL4, hb04⟩
    case round =>
      obtain ⟨k, hk, rfl, hf, hm, hln, hbel⟩ := hrel
      by_cases hlt : k < n
      · have hi1 : (k : Int) < (n : Int) := by omega
        have hkb : k < bs.length := by rw [← HN.out]; exact hlt
        obtain ⟨u, eu, hd⟩ := hf.2 k (Nat.le_refl _) hkb
        obtain ⟨gl, rfl, hcl⟩ := rowCell hf.1 k hkb u eu
        obtain ⟨cs2, G2, r1, r2, r3⟩ := hm
        obtain ⟨u2, eu2, hd2⟩ := r2 k hkb
        obtain ⟨gm, rfl, hcm⟩ := rowCell r1 k hkb u2 eu2
        have hGk := hGl.out k hkb
        have hbase := hd.1
        obtain ⟨_, hcur, a5, c5, rfl, hs5, hg5⟩ := hd
        obtain ⟨_, _, a6, c6, rfl, hs6, _⟩ := hd2
        obtain ⟨y, hy⟩ : ∃ y, y = bs.getD k [] := ⟨_, rfl⟩
        rw [← hy] at hs5 hs6 hcl hcm
        have hst5 : ∀ q, (convert 22 9 (.slice a5 y.length c5)).run Try.prog (wr.drewN q) = .ok (.string (strOfNums y)) (wr.drewN q) := fun q => (hs5.drewN q).str (P := Try.prog) 22 Try.underlying22 Try.underlying5 Try.underlying9
        have hst6 : ∀ q, (convert 22 9 (.slice a6 y.length c6)).run Try.prog (wr.drewN q) = .ok (.string (strOfNums y)) (wr.drewN q) := fun q => (hs6.drewN q).str (P := Try.prog) 22 Try.underlying22 Try.underlying5 Try.underlying9
        have hne : ((strOfNums y).toList != (strOfNums y).toList) = false := by simp
        have hm' : Hid (Bs wr w3.heap.size (.slice (some ⟨gm, 0, none⟩) n cm) bs) := ⟨cs2, G2, r1, r2, r3⟩
        replace hcur := hF hcur
        replace hf := hF hf
        replace hln := hF hln
        replace hs5 := hF hs5
        replace hy := hF hy
        clear r1 r2 r3 eu eu2 hs6
        go_wp2
        go_quiet (fail)
        go_wp2_with fail
        rename_i nq
        refine (spoil_any a5 y.length c5 (G k) (wr.drewN _) y (hs5.out.drewN _) hg5 (fun _ => hcur.out)).mono ?_
        rintro e w6 ⟨rfl, hgr⟩
        have hgr2 : wr.grownBy w6 (some (G k)) := ⟨hgr.os, hgr.tape, hgr.output, hgr.size, hgr.block⟩
        have hf6 := hF (hf.out.next hkb q3.out hgr2)
        have hm6 := hF (hm'.out.low hgr2 hGk)
        have hl6 := hF (hln.out.grown hgr2 (by omega))
        have hb6 : Below w.heap.size w w6 := hbel.trans (gB2 hgr2 (by have := hb02.size; omega) hbel.size)
        clear hf hm' hln hs5 hcur hgr hgr2 hbel hst5 hst6 hcl hcm
        go_wp2
        go_roundw
        case rel => exact ⟨k + 1, by omega, by go_num, hf6.out, hm6.out, hl6.out, hb6⟩
        case measure => simp [intOf]; omega
      · have hi1 : ¬ (k : Int) < (n : Int) := by omega
        have hA6 := h.out.below hbel
        clear hf hm
        go_wp2_with fail
        refine (kept_any _ g2 len c2 ao cap xs wr hA6 hln).mono ?_
        rintro e w6 ⟨rfl, rfl⟩
        clear hA6 hln
        go_wp2
        go_ret
        exact ⟨by first | rfl | (simp; done), hbel⟩
end Go.Proofs.Ytaibldodlbaknaa
