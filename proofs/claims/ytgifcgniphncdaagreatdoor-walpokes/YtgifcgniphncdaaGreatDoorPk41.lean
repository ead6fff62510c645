/-
  What is told from some segment on; segments that are dropped. No program in sight.
-/
import Derived.Test.YtgifcgniphncdaaGreatDoorPk40
import Derived.Test.YtgifcgniphncdaaGreatDoorPk30
import Derived.Test.YtgifcgniphncdaaGreatDoorPk29
import Derived.Test.YtgifcgniphncdaaGreatDoorPk39
set_option linter.unusedVariables false
set_option linter.unusedSimpArgs false
namespace Go.Proofs.YtgifcgniphncdaaGreatDoor
open Go.RowKit Go.Maps

theorem left_none {L : Lg} (h3 : L.step ≤ 3) (h : leftF L = 0) : L.step = 0 ∧ L.wait = [] := by
  unfold leftF at h
  constructor
  · split at h
    · assumption
    · omega
  · refine List.eq_nil_of_length_eq_zero ?_
    split at h <;> split at h <;> omega
section
variable {m T M Z : Nat} {K : Int} {L : Lg} {S : Dsk} {pu : List Cm}
end
section
variable {k m : Nat} {Cs : List (List Int × Nat)} {K : Int} {L : Lg} {S : Dsk}
end
end Go.Proofs.YtgifcgniphncdaaGreatDoor

/-
  Reading segments as they were written, and with one byte that is another one. No program in sight.
-/
set_option linter.unusedVariables false
set_option linter.unusedSimpArgs false
namespace Go.Proofs.YtgifcgniphncdaaGreatDoor
open Go.RowKit Go.Maps

def RdS : Int → Rdr → List (List Int × Nat) → Option Rdr → Prop
  | _, R, [], x => x = some R
  | n, R, y :: ys, x => (SegR y.1 n R none ∧ x = none) ∨ ∃ R1, SegR y.1 n R (some R1) ∧ RdS (n + 1) R1 ys x
theorem rdl_rds {P : PD} {f : Int} {Cs : List (List Int × Nat)} (h : Wl P f Cs) : ∀ (k : Nat) (R : Rdr) (x : Option Rdr), k ≤ Cs.length → RdS (f + k) R (Cs.drop k) x → Rds P (f + k) R (x.map fun R' => (f + (Cs.length : Int), R')) := by
  intro k
  generalize hm : Cs.length - k = m
  induction m generalizing k with
  | zero =>
    intro R x hk hc
    have e : k = Cs.length := by omega
    subst e
    rw [List.drop_length] at hc
    obtain rfl : x = some R := hc
    exact .stop (fun hn => by have := h.segs.1 hn; omega)
  | succ m ih =>
    intro R x hk hc
    have hkl : k < Cs.length := by omega
    rw [List.drop_eq_getElem_cons hkl] at hc
    have hr := h.read (i := k) (List.getElem?_eq_getElem hkl)
    rcases hc with ⟨h1, rfl⟩ | ⟨R1, h1, h2⟩
    · exact .bad (h.segs.2 ⟨by omega, by omega⟩) (by rw [hr]; exact h1)
    · refine .go (h.segs.2 ⟨by omega, by omega⟩) (r' := R1) (by rw [hr]; exact h1) ?_
      have := ih (k + 1) (by omega) R1 x (by omega) (by
        rw [show f + ((k + 1 : Nat) : Int) = f + (k : Int) + 1 from by omega]
        exact h2)
      rwa [show f + ((k + 1 : Nat) : Int) = f + (k : Int) + 1 from by omega] at this
theorem qn_le : ∀ (Bs : List (List (List Int))) (q : Nat), q ≤ qn q Bs
  | [], q => Nat.le_refl _
  | B :: r, q => by
    have := qn_le r (q + (B.length + 1))
    show q ≤ qn (q + (B.length + 1)) r
    omega
theorem first_at {n : Int} {q : Nat} {B : List (List Int)} (hn : 0 ≤ n) (ho : Okb B) (hq : q < 18446744073709551616) : takA (fras q (fstB n :: B)) 0 = some (q, fstB n) := by
  have ho' : Okb (fstB n :: B) := fun b hb => by
    rcases List.mem_cons.1 hb with rfl | hb
    · exact ⟨by have := fstB_len n; omega, fstB_byt n hn⟩
    · exact ho b hb
  have hb := fras_byt q _ ho'
  have ht : takA (fras q (fstB n :: B)) ((0 : Nat) : Int) = some (q, fstB n) := takA_at (rest := fras ((q + 1) % 18446744073709551616) B) hb rfl (by simp [fras]) hq ho'.head.2 ho'.head.1
  exact ht
theorem comsA_cons {B : List (List Int)} {r : List (List (List Int))} {cs : List Cm} (h : comsA (B :: r) = some cs) : ∃ k k2, coms B = some k ∧ comsA r = some k2 ∧ cs = k ++ k2 := by
  simp only [comsA] at h
  cases hc : coms B with
  | none => rw [hc] at h; cases h
  | some k =>
    rw [hc] at h
    simp only at h
    cases hr : comsA r with
    | none => rw [hr] at h; cases h
    | some k2 =>
      rw [hr] at h
      simp only [Option.map_some, Option.some.injEq] at h
      exact ⟨k, k2, rfl, rfl, h.symm⟩
theorem rdl_clean : ∀ (Bs : List (List (List Int))) (n : Int) (q : Nat) (R : Rdr) (cs : List Cm), 0 ≤ n → (R.begun = true → R.next = q) → (∀ B ∈ Bs, Okb B ∧ Seald B) → comsA Bs = some cs → qn q Bs < 18446744073709551616 → ∃ R', RdS n R (cln n q Bs) (some R') ∧ R'.cs = R.cs ++ cs ∧ (R'.begun = true → R'.next = qn q Bs) ∧ (Bs ≠ [] → R'.begun = true)
  | [], n, q, R, cs, hn, hR, hb, hc, hq => by
    simp only [comsA, Option.some.injEq] at hc
    subst hc
    exact ⟨R, rfl, by simp, hR, fun h => absurd rfl h⟩
  | B :: r, n, q, R, cs, hn, hR, hb, hc, hq => by
    obtain ⟨k, k2, h1, h2, rfl⟩ := comsA_cons hc
    have hB := hb B (List.mem_cons_self ..)
    have hle := qn_le r (q + (B.length + 1))
    have hq' : qn (q + (B.length + 1)) r < 18446744073709551616 := hq
    have hs := segR_clean (n := n) (R := R) (s := q) hn (by omega) hR hB.1 h1
    rw [Nat.mod_eq_of_lt (by omega)] at hs
    obtain ⟨R', a1, a2, a3, a4⟩ := rdl_clean r (n + 1) (q + (B.length + 1)) ⟨true, q + (B.length + 1), R.cs ++ k⟩ k2 (by omega) (fun _ => rfl) (fun C hC => hb C (List.mem_cons_of_mem _ hC)) h2 hq'
    refine ⟨R', .inr ⟨_, hs, a1⟩, by rw [a2]; simp, a3, fun _ => ?_⟩
    cases r with
    | nil =>
      have : some R' = some ⟨true, q + (B.length + 1), R.cs ++ k⟩ := a1
      simp only [Option.some.injEq] at this
      rw [this]
    | cons C r => exact a4 (by simp)
/-- One byte is another one. -/
theorem rdl_poked : ∀ (Bs : List (List (List Int))) (n : Int) (q : Nat) (R : Rdr) (cs : List Cm) (i at_ : Nat) (z : Int) (s : Nat), 0 ≤ n → (R.begun = true → R.next = q) → R.next ≤ q → (∀ B ∈ Bs, Okb B ∧ Seald B) → comsA Bs = some cs → qn q Bs + 2 < 18446744073709551616 → i < Bs.length → at_ < ((cln n q Bs).getD i ([], 0)).1.length → (0 ≤ z ∧ z ≤ 255) → (((cln n q Bs).getD i ([], 0)).1).getD at_ 0 ≠ z →
    ∃ x, RdS n R ((cln n q Bs).set i ((((cln n q Bs).getD i ([], 0)).1).set at_ z, s)) x ∧ (x = none ∨ ∃ R', x = some R' ∧ R'.cs = R.cs ++ cs)
  | [], n, q, R, cs, i, at_, z, s, hn, hR, hR2, hb, hc, hq, hi, ha, hz, hne => absurd hi (by simp)
  | B :: r, n, q, R, cs, 0, at_, z, s, hn, hR, hR2, hb, hc, hq, hi, ha, hz, hne => by
    obtain ⟨k, k2, h1, h2, rfl⟩ := comsA_cons hc
    have hB := hb B (List.mem_cons_self ..)
    have hle := qn_le r (q + (B.length + 1))
    have hq' : qn (q + (B.length + 1)) r + 2 < 18446744073709551616 := hq
    have ha' : at_ < eo (fstB n :: B) := by
      rw [← fras_len q]
      exact ha
    have hne' : (fras q (fstB n :: B)).getD at_ 0 ≠ z := hne
    rcases segR_poked hn hR hR2 hB.1 h1 hB.2 (by omega) ha' hz hne' with h | ⟨R', g1, g2, g3, g4⟩
    · exact ⟨none, .inl ⟨h, rfl⟩, .inl rfl⟩
    · cases r with
      | nil =>
        simp only [comsA, Option.some.injEq] at h2
        subst h2
        exact ⟨some R', .inr ⟨R', g1, rfl⟩, .inr ⟨R', rfl, by rw [g2]; simp⟩⟩
      | cons C r =>
        have hC := hb C (List.mem_cons_of_mem _ (List.mem_cons_self ..))
        have hf := first_at (n := n + 1) (q := q + (B.length + 1)) (B := C) (by omega) hC.1 (by omega)
        have refused : ∀ R1 : Rdr, R1.begun = true → R1.next ≤ q + B.length → SegR (fras (q + (B.length + 1)) (fstB (n + 1) :: C)) (n + 1) R1 none := fun R1 hb1 hn1 => by
          refine .inl ⟨_, hf, ?_, rfl⟩
          have : R1.nx (fras (q + (B.length + 1)) (fstB (n + 1) :: C)) = R1.next := by unfold Rdr.nx; rw [if_pos hb1]
          rw [this]
          show q + (B.length + 1) ≠ R1.next
          omega
        rcases g4 with ⟨e, hk⟩ | ⟨e1, e2⟩
        · cases hRb : R.begun with
          | true =>
            exact ⟨none, .inr ⟨R', g1, .inl ⟨refused R' (by rw [e]; exact hRb) g3, rfl⟩⟩, .inl rfl⟩
          | false =>
            obtain ⟨R2, a1, a2, a3, a4⟩ := rdl_clean (C :: r) (n + 1) (q + (B.length + 1)) R' k2 (by omega) (fun h => by rw [e, hRb] at h; cases h) (fun D hD => hb D (List.mem_cons_of_mem _ hD)) h2 (by omega)
            exact ⟨some R2, .inr ⟨R', g1, a1⟩, .inr ⟨R2, rfl, by rw [a2, g2]; simp⟩⟩
        · exact ⟨none, .inr ⟨R', g1, .inl ⟨refused R' e1 g3, rfl⟩⟩, .inl rfl⟩
  | B :: r, n, q, R, cs, i + 1, at_, z, s, hn, hR, hR2, hb, hc, hq, hi, ha, hz, hne => by
    obtain ⟨k, k2, h1, h2, rfl⟩ := comsA_cons hc
    have hB := hb B (List.mem_cons_self ..)
    have hle := qn_le r (q + (B.length + 1))
    have hq' : qn (q + (B.length + 1)) r + 2 < 18446744073709551616 := hq
    have hs := segR_clean (n := n) (R := R) (s := q) hn (by omega) hR hB.1 h1
    rw [Nat.mod_eq_of_lt (by omega)] at hs
    obtain ⟨x, a1, a2⟩ := rdl_poked r (n + 1) (q + (B.length + 1)) ⟨true, q + (B.length + 1), R.cs ++ k⟩ k2 i at_ z s (by omega) (fun _ => rfl) (Nat.le_refl _) (fun C hC => hb C (List.mem_cons_of_mem _ hC)) h2 hq' (by simpa using hi) (by simpa [cln] using ha) hz (by simpa [cln] using hne)
    refine ⟨x, .inr ⟨_, hs, ?_⟩, ?_⟩
    · simpa [cln] using a1
    · rcases a2 with a2 | ⟨R', a2, a3⟩
      · exact .inl a2
      · exact .inr ⟨R', a2, by rw [a3]; simp⟩
/-- What Open answers of a disk that is read so. -/
theorem open_rd {S S' : Dsk} {Cs : List (List Int × Nat)} {y : Option Rdr} {er : Int} {x : Option (Lg × List Cm)} (hu : S.up) (h : Wl S.P 1 Cs) (hc : RdS 1 ⟨false, 0, []⟩ Cs y) (hn : S.P.n + 3 ≤ 65536) (h64 : Cs.length < 64) (ho : OpenR S 1 er x S') :
    (y = none → er = 81 ∧ x = none) ∧ ∀ R, y = some R → er = 0 ∧ x = some (Lg.new (1 + Cs.length) R.next, R.cs) ∧ S' = (beg S (1 + Cs.length) R.next).2 := by
  have hr := rdl_rds h 0 ⟨false, 0, []⟩ y (Nat.zero_le _) (by simpa using hc)
  simp only [Int.natCast_zero, Int.add_zero] at hr
  have hg := h.nogap 1 (Int.le_refl _)
  refine ⟨fun hy => ?_, fun R hy => ?_⟩
  · subst hy
    cases ho with
    | arg h1 => omega
    | off _ _ h1 => rw [hu.2] at h1; cases h1
    | gap _ _ _ h1 => rw [hg] at h1; cases h1
    | bad _ _ _ _ h1 => exact ⟨rfl, rfl⟩
    | err _ _ _ _ h1 h2 => cases rds_det hr h1
    | ok _ _ _ _ h1 h2 => cases rds_det hr h1
  · subst hy
    have hb := beg_up hu h R.next hn h64 (by omega)
    cases ho with
    | arg h1 => omega
    | off _ _ h1 => rw [hu.2] at h1; cases h1
    | gap _ _ _ h1 => rw [hg] at h1; cases h1
    | bad _ _ _ _ h1 => cases rds_det hr h1
    | err _ _ _ _ h1 h2 =>
      have := rds_det hr h1
      simp only [Option.map_some, Option.some.injEq, Prod.mk.injEq] at this
      obtain ⟨rfl, rfl⟩ := this
      exact absurd hb.1 h2
    | ok _ _ _ _ h1 h2 =>
      have := rds_det hr h1
      simp only [Option.map_some, Option.some.injEq, Prod.mk.injEq] at this
      obtain ⟨rfl, rfl⟩ := this
      exact ⟨rfl, rfl, rfl⟩
section
variable {T M Z : Nat} {K : Int} {L : Lg} {S : Dsk} {pu : List Cm}
theorem UpA.rest (h : UpA L S pu T M K Z) (h0 : leftF L = 0) : ∃ Bs, Wl S.P 1 (cln 1 0 Bs) ∧ Bs ≠ [] ∧ Bs.length ≤ T ∧ comsA Bs = some pu ∧ (∀ B ∈ Bs, Okb B ∧ Seald B) ∧ qn 0 Bs ≤ M ∧ S.up ∧ S.P.log = [] ∧ S.P.n ≤ K := by
  obtain ⟨Bs, cs, B, ks, wc, j, g2⟩ := h
  obtain ⟨s0, w0⟩ := left_none g2.st h0
  have hwl := g2.wl
  have hsq := g2.seq
  have hbd := g2.bd
  have hwc : wc = [] := by
    have := g2.wt
    rw [w0] at this
    exact List.map_eq_nil_iff.1 this.symm
  rw [g2.z s0, live_all, ← cln_snoc] at hwl
  refine ⟨Bs ++ [B], hwl, by simp, by simpa using g2.t, by rw [comsA_snoc g2.ca g2.cm, g2.all, hwc]; simp, fun C hC => ?_, by rw [qn_snoc]; omega, g2.up, g2.log, g2.n⟩
  rcases List.mem_append.1 hC with hC | hC
  · exact g2.bs C hC
  · simp only [List.mem_singleton] at hC
    rw [hC]; exact ⟨g2.ok, g2.sl (.inl s0)⟩
/-- Opened anew, without a crash. -/
theorem opened {S S' : Dsk} {Bs : List (List (List Int))} {pu : List Cm} {er : Int} {x : Option (Lg × List Cm)} (hu : S.up) (hw : Wl S.P 1 (cln 1 0 Bs)) (hlen : Bs.length < 63) (hc : comsA Bs = some pu) (hb : ∀ B ∈ Bs, Okb B ∧ Seald B) (hq : qn 0 Bs + 2 < 18446744073709551616) (hn : S.P.n + 3 ≤ 65536) (ho : OpenR S 1 er x S') :
    er = 0 ∧ ∃ L, x = some (L, pu) ∧ UpA L S' pu (Bs.length + 1) (qn 0 Bs + 1) (S.P.n + 3) 96 := by
  obtain ⟨R, a1, a2, a3, a4⟩ := rdl_clean Bs 1 0 ⟨false, 0, []⟩ pu (by decide) (fun e => by cases e) hb hc (by omega)
  have hl : (cln 1 0 Bs).length = Bs.length := cln_len _ _ _
  obtain ⟨e1, e2, e3⟩ := (open_rd hu hw a1 hn (by omega) ho).2 R rfl
  have hR : R.next = qn 0 Bs := by
    cases Bs with
    | nil =>
      have : some R = some ⟨false, 0, []⟩ := a1
      simp only [Option.some.injEq] at this
      rw [this]
      rfl
    | cons C r => exact a3 (a4 (by simp))
  have hcs : R.cs = pu := by rw [a2]; rfl
  have hbg := beg_up hu hw R.next hn (by omega) (by omega)
  rw [hl] at e2 e3 hbg
  rw [hR] at e2 e3 hbg
  obtain ⟨b1, b2, b3, b4, b5⟩ := hbg
  subst e3
  rw [hcs] at e2
  refine ⟨e1, _, e2, Bs, pu, [], [], [], 1, ?_⟩
  have e : live (1 + Bs.length) (qn 0 Bs) [] 1 = (fra (qn 0 Bs) (fstB (1 + Bs.length)), (fra (qn 0 Bs) (fstB (1 + Bs.length))).length) := by
    have := live_all (1 + Bs.length) (qn 0 Bs) []
    rw [fras_one] at this
    exact this
  refine ⟨b5, rfl, by omega, by rw [e]; exact b2, hc, hb, b4, rfl, (fun b hb => by cases hb), rfl, rfl, (fun c hc => by cases hc), by simp, ?_, ?_, Nat.zero_le _, by simp, (fun _ => rfl), Nat.le_refl _, ?_, Nat.le_refl _, fun _ => .inl rfl⟩
  · show (qn 0 Bs + 1) % 18446744073709551616 = qn 0 Bs + (0 + 1)
    rw [Nat.mod_eq_of_lt (by omega)]
  · show (qn 0 Bs + 1) % 18446744073709551616 + 0 ≤ _
    rw [Nat.mod_eq_of_lt (by omega)]
    omega
  · show eo [fstB (1 + (Bs.length : Int))] + 6752 * 0 + 0 ≤ 96
    simp only [eo]
    have := fstB_len (1 + (Bs.length : Int))
    unfold nb
    omega
end
end Go.Proofs.YtgifcgniphncdaaGreatDoor

/-
  Around WalPokes: picks, flushes, opening what was written, and what was poked.
-/
set_option linter.unusedVariables false
set_option linter.unusedSimpArgs false
namespace Go.Proofs.YtgifcgniphncdaaGreatDoor
open Go.RowKit Go.Maps

set_option maxRecDepth 100000 in
theorem pick9_any (c n : Int) (h0 : -9223372036854775808 ≤ c) (h1 : c ≤ 9223372036854775807) (hn : 0 < n) (hn2 : n ≤ 1000000) (w : World) : Calls Tryz.prog 19 #[.int .i64 c, .int .i64 n] w fun e w' => e = .returned (.int .i64 (pkn c n)) ∧ w' = w := by
  have hn0 : ¬ n = 0 := by omega
  have hn1 : ¬ n = -1 := by omega
  unfold pkn
  by_cases hc : c < 0
  · have hd : decide (c < 0) = true := by simpa using hc
    rw [if_pos hc]
    have w1 : IntKind.i64.wrap (c + 1) = c + 1 := by rw [IntKind.wrap_i64]; omega
    have w2 : IntKind.i64.wrap (-(c + 1)) = -(c + 1) := by rw [IntKind.wrap_i64]; omega
    have w3 : IntKind.i64.wrap ((-(c + 1)).tmod n) = (-(c + 1)).tmod n := by
      have a := Int.tmod_nonneg (a := -(c + 1)) n (by omega)
      have b := Int.tmod_lt_of_pos (-(c + 1)) hn
      rw [IntKind.wrap_i64]; omega
    go_enter Tryz.func19, Tryz.ntmps19
    go_wp2
    go_ret
    refine ⟨reti8 ?_, rfl⟩
    rw [← Int.tmod_eq_emod_of_nonneg (by omega), Int.neg_tmod]
  · have hd : decide (c < 0) = false := by simpa using hc
    rw [if_neg hc]
    have w3 : IntKind.i64.wrap (c.tmod n) = c.tmod n := by
      have a := Int.tmod_nonneg (a := c) n (by omega)
      have b := Int.tmod_lt_of_pos c hn
      rw [IntKind.wrap_i64]; omega
    go_enter Tryz.func19, Tryz.ntmps19
    go_wp2
    go_ret
    exact ⟨rfl, rfl⟩

set_option maxRecDepth 100000 in
set_option maxHeartbeats 2000000 in
theorem flushA_any {w : World} {B : Nat} {Y : Nat → Prop} {l d : Nat} {v : Value} {p : Py} (h : Pz w B Y l d v p) {T M Z : Nat} {K : Int} (hu : UpA p.L p.S p.put T M K Z) (hK : K + 10 < 65536) (hZ : Z ≤ 262144) (hM : M + 10 < 18446744073709551616) :
    Calls Tryz.prog 25 #[.pointer (some ⟨l, 0, none⟩)] w fun e w' => e = .returned (.bool true) ∧ ∃ L' S', Pz w' B Y l d v ⟨L', S', p.put, p.many, p.turns, p.N⟩ ∧ UpA L' S' p.put T (M + 10) (K + 10) Z ∧ leftF L' = 0 ∧ L'.seg = p.L.seg ∧ Below B w w' := by
  have h7 := left_7 hu.st
  have HH := hid8 h
  have HU := hid8 hu
  clear h hu
  go_enter Tryz.func25, Tryz.ntmps25
  go_wp2
  go_loopw [3, 4, 5] (fun i _ _ wr => ∃ (k : Nat) (L' : Lg) (S' : Dsk), k ≤ 10 ∧ i = .int .i64 (k : Int) ∧ leftF L' + k ≤ 7 ∧ Pz wr B Y l d v ⟨L', S', p.put, p.many, p.turns, p.N⟩ ∧ UpA L' S' p.put T (M + k) (K + k) Z ∧ L'.seg = p.L.seg ∧ Below B w wr) (fun i _ _ _ => 10 - (intOf i).toNat)
  case atStart => exact ⟨0, p.L, p.S, by omega, rfl, by omega, HH.out, HU.out.mono (Nat.le_refl _) (Nat.le_refl _) (by simp) (Nat.le_refl _), rfl, Below.refl _ _⟩
  case round =>
    clear HH HU
    obtain ⟨k, L', S', hk, rfl, hlk, hp, hu, hsg, hb⟩ := hrel
    obtain ⟨wR, hwR⟩ : ∃ x, x = wr := ⟨_, rfl⟩
    subst hwR
    have hk3 : (k : Int) < 10 := by omega
    have HF2 := hid8 (hu.flush (by omega) hZ (by omega))
    have HF1 := hid8 HF2.out.1
    have HP := hid8 hp
    have HB := hid8 hb
    obtain ⟨A, hpm, hA⟩ := hp.it
    have HFl := hid8 (walFlush_any hpm)
    have HBL := hid8 (fun (w' : World) (F : Fr A wR w') => hpm.bel F)
    have HAA := hid8 hA
    clear hp hb hpm hA hu
    have ea := HF2.out.2.1
    have HSG : Hid (((L'.flush S').2.1).seg = p.L.seg) := hid8 (HF2.out.2.2.2.trans hsg)
    have hl2 := HF2.out.2.2.1
    simp only at HFl
    rw [ea] at HFl
    generalize hq : L'.flush S' = q at HFl HF1 HSG hl2
    obtain ⟨qa, L2, S2⟩ := q
    simp only at HFl HF1 HSG hl2
    clear HF2 hq ea
    by_cases hz : leftF L2 = 0
    · have hzd : decide (leftF L2 = 0) = true := by simpa using hz
      rw [hzd] at HFl
      go_wp2_with fail
      refine HFl.out.mono ?_
      rintro e w2 ⟨rfl, hp2, hf2⟩
      have HB2 := hid8 (HB.out.trans (HBL.out _ hf2))
      have HP2 := hid8 (HP.out.next HAA.out hp2 hf2 (many := p.many) (turns := p.turns))
      clear HFl hp2 hf2 HP HB HBL
      go_wp2
      go_ret
      exact ⟨rfl, L2, S2, HP2.out, HF1.out.mono (Nat.le_refl _) (by omega) (by omega) (Nat.le_refl _), hz, HSG.out, HB2.out⟩
    · have hzd : decide (leftF L2 = 0) = false := by simpa using hz
      rw [hzd] at HFl
      go_wp2_with fail
      refine HFl.out.mono ?_
      rintro e w2 ⟨rfl, hp2, hf2⟩
      have HB2 := hid8 (HB.out.trans (HBL.out _ hf2))
      have HP2 := hid8 (HP.out.next HAA.out hp2 hf2 (many := p.many) (turns := p.turns))
      clear HFl hp2 hf2 HP HB HBL
      go_wp2
      go_roundw
      case rel => exact ⟨k + 1, L2, S2, by omega, by go_num, by omega, HP2.out, HF1.out.mono (Nat.le_refl _) (by omega) (by push_cast; omega) (Nat.le_refl _), HSG.out, HB2.out⟩
      case measure => simp [intOf]; omega

theorem Wl.poke {P : PD} {f : Int} {Cs : List (List Int × Nat)} (h : Wl P f Cs) {i : Nat} {x : List Int × Nat} (hi : Cs[i]? = some x) {k : Nat} (hk : k < x.1.length) {b : Int} (hb : 0 ≤ b ∧ b ≤ 255) :
    (Land.ppoke P (nm8 (f + i)) k b).1 = 0 ∧ Wl (Land.ppoke P (nm8 (f + i)) k b).2 f (Cs.set i (x.1.set k b, x.2)) ∧ (Land.ppoke P (nm8 (f + i)) k b).2.n = P.n := by
  have hinv := Land.inv_poke h.inv (nm8 (f + i)) k b hb
  obtain ⟨ρ, hρ, hj⟩ := h.ex
  obtain ⟨h1, h2⟩ := hρ i x hi
  have hil := (List.getElem?_eq_some_iff.1 hi).1
  have ea := at_eq h2
  have e : Land.ppoke P (nm8 (f + i)) k b = (0, { P with fil := P.fil.set (ρ i) (x.1.set k b, x.2) }) := by
    unfold Land.ppoke
    rw [if_neg (by rw [h.nm i (Nat.le_of_lt hil)]; decide), h1]
    simp only [ea]
    rw [if_neg (by omega), Int.toNat_natCast]
  rw [e] at hinv ⊢
  refine ⟨rfl, ⟨hinv, h.f1, by rw [List.length_set]; exact h.fm, ⟨ρ, fun k y hk => ?_, fun a b ha hb => hj a b (by simpa using ha) (by simpa using hb)⟩, fun s k hs => ?_, by rw [List.length_set]; exact h.cnt⟩, rfl⟩
  · by_cases hki : k = i
    · subst hki
      rw [List.getElem?_set_self hil] at hk
      simp only [Option.some.injEq] at hk
      subst hk
      exact ⟨h1, List.getElem?_set_self (List.getElem?_eq_some_iff.1 h2).1⟩
    · rw [List.getElem?_set_ne (Ne.symm hki)] at hk
      obtain ⟨g1, g2⟩ := hρ k y hk
      refine ⟨g1, ?_⟩
      show (P.fil.set (ρ i) _)[ρ k]? = _
      rw [List.getElem?_set_ne (fun e => hki (hj k i (List.getElem?_eq_some_iff.1 hk).1 hil e.symm))]
      exact g2
  · obtain ⟨k', hk', e'⟩ := h.only s k hs
    exact ⟨k', by simpa using hk', e'⟩
section
variable {w : World} {B : Nat} {D : Nat → Prop} {d : Nat} {S : Dsk}
theorem openA_any {Bs : List (List (List Int))} {pu : List Cm} (hD : DV w D d S) (hDB : ∀ j, D j → B ≤ j) (hB : B ≤ w.heap.size) (hg : Gl B w) (hu : S.up) (hw : Wl S.P 1 (cln 1 0 Bs)) (hlen : Bs.length < 63) (hc : comsA Bs = some pu) (hb : ∀ B ∈ Bs, Okb B ∧ Seald B) (hq : qn 0 Bs + 2 < 18446744073709551616) (hn : S.P.n + 3 ≤ 65536) :
    Calls Tryz.prog 17 #[.pointer (some ⟨d, 0, none⟩), .int .i64 1] w fun e w' => ∃ L S' l vc A C, e = .returned (.tuple #[.pointer (some ⟨l, 0, none⟩), vc, .int .i64 0]) ∧ PM w' B A l d S' L 0 ∧ CRow w' C vc pu ∧ (∀ j, C j → w.heap.size ≤ j ∧ j < w'.heap.size ∧ ¬ A j) ∧ (∀ j, A j → Land.more D w w' j) ∧ Fr D w w' ∧ UpA L S' pu (Bs.length + 1) (qn 0 Bs + 1) (S.P.n + 3) 96 := by
  refine (walOpen_any hD hDB hB hg 1).mono ?_
  rintro e w' ⟨er, x, S', hop, hf, hres⟩
  obtain ⟨e1, L, e2, e3⟩ := opened hu hw hlen hc hb hq hn hop
  subst e1 e2
  rcases hres with ⟨h, -⟩ | ⟨L', cs, l, vc, A, C, hx, rfl, hpm, hcr, hA, hC⟩
  · cases h
  simp only [Option.some.injEq, Prod.mk.injEq] at hx
  obtain ⟨rfl, rfl⟩ := hx
  exact ⟨L, S', l, vc, A, C, rfl, hpm, hcr, hC, hA, hf, e3⟩
theorem openP_any {Cs : List (List Int × Nat)} {pu : List Cm} {y : Option Rdr} (hD : DV w D d S) (hDB : ∀ j, D j → B ≤ j) (hB : B ≤ w.heap.size) (hg : Gl B w) (hu : S.up) (hw : Wl S.P 1 Cs) (hlen : Cs.length < 64) (hc : RdS 1 ⟨false, 0, []⟩ Cs y) (hy : y = none ∨ ∃ R, y = some R ∧ R.cs = pu) (hn : S.P.n + 3 ≤ 65536) :
    Calls Tryz.prog 17 #[.pointer (some ⟨d, 0, none⟩), .int .i64 1] w fun e w' => Fr D w w' ∧ ((y = none ∧ e = .returned (.tuple #[.pointer none, .slice none 0 0, .int .i64 81])) ∨ ∃ l vc C, e = .returned (.tuple #[.pointer (some ⟨l, 0, none⟩), vc, .int .i64 0]) ∧ CRow w' C vc pu ∧ (∀ j, C j → w.heap.size ≤ j ∧ j < w'.heap.size)) := by
  refine (walOpen_any hD hDB hB hg 1).mono ?_
  rintro e w' ⟨er, x, S', hop, hf, hres⟩
  have ho := open_rd hu hw hc hn hlen hop
  refine ⟨hf, ?_⟩
  rcases hy with hy | ⟨R, hy, hR⟩
  · obtain ⟨e1, e2⟩ := ho.1 hy
    subst e1 e2
    rcases hres with ⟨h, he, -⟩ | ⟨L', cs, l, vc, A, C, hx, -⟩
    · exact .inl ⟨hy, he⟩
    · cases hx
  · obtain ⟨e1, e2, e3⟩ := ho.2 R hy
    subst e1 e2
    rcases hres with ⟨h, -⟩ | ⟨L', cs, l, vc, A, C, hx, he, hpm, hcr, hA, hC⟩
    · cases h
    simp only [Option.some.injEq, Prod.mk.injEq] at hx
    obtain ⟨rfl, rfl⟩ := hx
    rw [hR] at hcr
    exact .inr ⟨l, vc, C, he, hcr, fun j hj => ⟨(hC j hj).1, (hC j hj).2.1⟩⟩
end
/-- Another log on the same disk; what was put stays. -/
theorem pz_again {w w' : World} {B : Nat} {Z : Nat → Prop} {l d m : Nat} {v : Value} {p : Py} (h : Pz w B Z l d v p) {D A' : Nat → Prop} (hD : ∀ j, D j → v.ownBlock ≠ some j ∧ ¬ Z j) (hf : Fr D w w') {S' : Dsk} {L' : Lg} (hpm : PM w' B A' m d S' L' 0) (hA' : ∀ j, A' j → Land.more D w w' j) : Pz w' B Z m d v ⟨L', S', p.put, 0, 0, 0⟩ := by
  have hlt := h.pu.lt
  have hz := hf.size
  refine ⟨⟨_, hpm, fun j hj => ?_⟩, h.pu.keep hf.size (fun g e => hf.block g (hlt g e) (fun k => (hD g k).1 e)) (fun j hj => hf.block j (h.zl j hj) (fun k => (hD j k).2 hj)), h.vb, fun j hj => Nat.lt_of_lt_of_le (h.zl j hj) hz, h.vz⟩
  rcases hA' j hj with hj | hj
  · exact hD j hj
  · exact ⟨fun e => by have := hlt j e; have := hj.1; omega, fun e => by have := h.zl j e; have := hj.1; omega⟩
end Go.Proofs.YtgifcgniphncdaaGreatDoor

/-
  WalPokes: one byte that is another one is told, or makes no difference.
-/
set_option linter.unusedVariables false
set_option linter.unusedSimpArgs false
namespace Go.Proofs.YtgifcgniphncdaaGreatDoor
open Go.RowKit Go.Maps

theorem cln_pos : ∀ (Bs : List (List (List Int))) (n : Int) (q : Nat), ∀ y ∈ cln n q Bs, 0 < y.1.length
  | [], n, q, y, hy => by cases hy
  | B :: r, n, q, y, hy => by
    rcases List.mem_cons.1 hy with rfl | hy
    · show 0 < (fras q (fstB n :: B)).length
      rw [fras_len]
      simp only [eo]
      have : 1 ≤ nb (fstB n).length := by unfold nb; omega
      omega
    · exact cln_pos r _ _ y hy

theorem xor8 {a b : Int} (ha : 0 ≤ a ∧ a ≤ 255) (hb : 0 ≤ b ∧ b ≤ 255) : (0 ≤ bits BinOp.xor IntKind.u8 a b ∧ bits BinOp.xor IntKind.u8 a b ≤ 255) ∧ (b = 0 → bits BinOp.xor IntKind.u8 a b = a) := by
  rw [u8_xor a b (by omega) (by omega) (by omega) (by omega)]
  have : a.toNat ^^^ b.toNat < 2 ^ 8 := Nat.xor_lt_two_pow (by omega) (by omega)
  refine ⟨⟨by omega, by omega⟩, fun e => ?_⟩
  subst e
  simp
  omega
set_option maxRecDepth 100000 in
set_option maxHeartbeats 8000000 in
theorem walPokes_walk {B0 : Nat} (w : World) (hg : Gl B0 w) (hB0 : B0 ≤ w.heap.size) {sa : Option Addr} {sl sc : Nat} {os : List OpQ} (hs : Sq w w.heap.size sa sl sc os) {ma : Option Addr} {ml mc : Nat} {os2 : List OpQ} (hm : Sq w w.heap.size ma ml mc os2) (sg at_ by_ : Int) (hg0 : -9223372036854775808 ≤ sg) (hg1 : sg ≤ 9223372036854775807) (ha0 : -9223372036854775808 ≤ at_) (ha1 : at_ ≤ 9223372036854775807) (hy0 : 0 ≤ by_) (hy1 : by_ ≤ 255) :
    Calls Tryz.prog 6 #[.slice sa sl sc, .slice ma ml mc, .int .i64 sg, .int .i64 at_, .int .u8 by_] w fun e w' => e = .returned (.bool true) ∧ Below w.heap.size w w' := by
  obtain ⟨B, hBe⟩ : ∃ B, B = w.heap.size := ⟨_, rfl⟩
  rw [← hBe] at hs hm
  have HG : Hid (Gl B w) := hid8 (hg.up (by omega))
  have HS := hid8 hs
  have HM := hid8 hm
  have HSH := hid8 (shown8_any w HG.out (Nat.le_of_eq hBe))
  clear hg hs hm
  go_enter Tryz.func6, Tryz.ntmps6
  go_wp2_with fail
  refine HSH.out.mono ?_
  rintro e w1 ⟨rfl, hb1⟩
  have HB1 : Hid (Below B w w1) := hid8 (hb1.mono (by omega))
  have hz1 := hb1.size
  clear HSH hb1
  go_wp2_with fail
  refine (dv_new w1).mono ?_
  rintro e w2 ⟨d, rfl, hD, hb2⟩
  have hz2 := hb2.size
  have HB2 := hid8 (HB1.out.trans (hb2.mono (by omega)))
  have HOP := hid8 (openA_any (B := B) (Bs := []) (pu := []) hD (fun j hj => by have := hj.1; omega) (by omega) (HG.out.on HB2.out) ⟨rfl, rfl⟩ (wl_new 1 (by decide) (by decide)) (by decide) rfl (fun B hB => by cases hB) (by decide) (by show (0 : Int) + 3 ≤ 65536; decide))
  clear hD hb2 HB1
  go_wp2_with fail
  refine HOP.out.mono ?_
  rintro e w3 ⟨L, S, l, vc, A, C, rfl, hpm, hcr, -, -, hf, hup⟩
  have hup' : UpA L S [] 1 1 3 96 := hup.mono (by decide) (by decide) (by show (0 : Int) + 3 ≤ 3; decide) (Nat.le_refl _)
  have hz3 := hf.size
  have HB3 := hid8 (HB2.out.trans (hf.to (n := B) (fun k hk e => by have := e.1; omega) (by omega)))
  have hpz : Pz w3 B (fun j => j < B) l d (.slice none 0 0) ⟨L, S, [], 0, 0, 0⟩ := ⟨⟨A, hpm, fun j hj => ⟨(fun e => by cases e), fun e => by have := (hpm.lo j hj).1; omega⟩⟩, PuR.nil _ _, (fun g e => by cases e), fun j hj => by omega, fun j hj e => by cases e⟩
  have HPL := hid8 (plays_any hpz (by omega) (fun j hj => hj) (HS.out.below HB3.out) (show 0 + 100 ≤ 1000000 by decide) rfl rfl (Nat.zero_le _))
  have HOK2 : Hid (UpA ((⟨L, S, [], 0, 0, 0⟩ : Py).play (os.take 100)).L ((⟨L, S, [], 0, 0, 0⟩ : Py).play (os.take 100)).S ((⟨L, S, [], 0, 0, 0⟩ : Py).play (os.take 100)).put 21 401 603 121632) := hid8 (by
    have hl : (os.take 100).length ≤ 100 := by rw [List.length_take]; omega
    exact (UpA.play (os.take 100) (p := ⟨L, S, [], 0, 0, 0⟩) (T := 1) (M := 1) (K := 3) (Z := 96) hup' (Nat.zero_le _) (Nat.zero_le _) (by decide) (by decide) (by omega) (by omega)).mono (by decide) (by omega) (by omega) (by decide))
  have HPB : Hid (((⟨L, S, [], 0, 0, 0⟩ : Py).play (os.take 100)).put.length ≤ 100) := hid8 (by
    have hl : (os.take 100).length ≤ 100 := by rw [List.length_take]; omega
    have h1 := (play_bounds (os.take 100) ⟨L, S, [], 0, 0, 0⟩).2.2.2
    simp only [List.length_nil] at h1
    omega)
  obtain ⟨av, cv, rfl⟩ := hcr.len
  generalize (⟨L, S, [], 0, 0, 0⟩ : Py).play (os.take 100) = p1 at HPL HOK2 HPB
  clear HOP hpm hf hup hup' HB2 hpz HS hcr
  go_wp2_with fail
  refine HPL.out.mono ?_
  rintro e w4 ⟨v1, rfl, hpz1, hb4⟩
  have HB4 := hid8 (HB3.out.trans hb4)
  have HFLU := hid8 (flushA_any hpz1 HOK2.out (by decide) (by decide) (by decide))
  clear HPL HB3 hb4 hpz1 HOK2
  go_wp2_with fail
  refine HFLU.out.mono ?_
  rintro e w5 ⟨rfl, L5, S5, hp5, hu5, hl5, -, hb5⟩
  have HB5 := hid8 (HB4.out.trans hb5)
  obtain ⟨Bs, hwl, -, hBT, hca, hbs, hqn, hup5, -, hn5⟩ := hu5.rest hl5
  obtain ⟨A5, ⟨⟨D5, vv, d1, d2, d3, d4⟩, hal, hAl, hBw, hg5, ok⟩, hA5⟩ := hp5.it
  have hdl : ∀ j, D5 j → B ≤ j := fun j hj => (hAl j (d4 j hj).1).1
  have HOP := hid8 (openA_any (B := B) d1 hdl hBw hg5 hup5 hwl (by omega) hca hbs (by omega) (by show S5.P.n + 3 ≤ 65536; omega))
  have HAGAIN := hid8 (fun (w' : World) (A' : Nat → Prop) (m : Nat) (S' : Dsk) (L' : Lg) (hf : Fr D5 w5 w') (hpm : PM w' B A' m d S' L' 0) (hA' : ∀ j, A' j → Land.more D5 w5 w' j) => pz_again hp5 (fun j hj => hA5 j (d4 j hj).1) hf hpm hA')
  clear HFLU hb5 HB4 hu5 d1 d2 d3 d4 hal hAl hg5 ok hA5 hp5 hwl hca hbs hup5
  go_wp2_with fail
  refine HOP.out.mono ?_
  rintro e w6 ⟨L6, S6, m, vt, A6, C6, rfl, hpm6, hcr6, hC6, hA6, hf6, hu6⟩
  have hz6 := hf6.size
  have HB6 := hid8 (HB5.out.trans (hf6.to (n := B) (fun k hk e => by have := hdl k e; omega) (by omega)))
  have hpz6 := HAGAIN.out w6 A6 m S6 L6 hf6 hpm6 hA6
  obtain ⟨ao1, cap1, rfl, hcs1⟩ := hpz6.cs
  obtain ⟨at6, ct6, rfl, hct⟩ := hcr6.read8
  have HSC := hid8 (sameCommits_any hct hcs1)
  have HPZ6 := hid8 hpz6
  have HU6 := hid8 (hu6.mono (show Bs.length + 1 ≤ 22 by omega) (show qn 0 Bs + 1 ≤ 412 by omega) (show S5.P.n + 3 ≤ 616 by omega) (Nat.le_refl _))
  clear HOP HAGAIN hpm6 hcr6 hC6 hA6 hf6 hu6 hpz6 hcs1 hct HB5 hdl hl5 hBT hqn hn5
  go_wp2_with fail
  refine HSC.out.mono ?_
  rintro e w7 ⟨rfl, hb7⟩
  have hz7 := hb7.size
  have HB7 := hid8 (HB6.out.trans (hb7.mono (by omega)))
  have hpz7 : Pz w7 B (fun j => j < B) m d (.slice ao1 p1.put.length cap1) ⟨L6, S6, p1.put, 0, 0, 0⟩ := by
    obtain ⟨⟨A, h1, h2⟩, h3, h4, h5, h6⟩ := HPZ6.out
    exact ⟨⟨A, h1.below hb7, h2⟩, h3.keep hz7 (fun g e => hb7.block g (h3.lt g e)) (fun j hj => hb7.block j (h5 j hj)), h4, fun j hj => Nat.lt_of_lt_of_le (h5 j hj) hz7, h6⟩
  have HPL := hid8 (plays_any hpz7 (by omega) (fun j hj => hj) (HM.out.below HB7.out) (show 0 + 100 ≤ 1000000 by decide) rfl rfl (by have := HPB.out; show p1.put.length ≤ 1000000; omega))
  have HOK2 : Hid (UpA ((⟨L6, S6, p1.put, 0, 0, 0⟩ : Py).play (os2.take 100)).L ((⟨L6, S6, p1.put, 0, 0, 0⟩ : Py).play (os2.take 100)).S ((⟨L6, S6, p1.put, 0, 0, 0⟩ : Py).play (os2.take 100)).put 42 812 1216 121632) := hid8 (by
    have hl : (os2.take 100).length ≤ 100 := by rw [List.length_take]; omega
    exact (UpA.play (os2.take 100) (p := ⟨L6, S6, p1.put, 0, 0, 0⟩) (T := 22) (M := 412) (K := 616) (Z := 96) HU6.out (Nat.zero_le _) (Nat.zero_le _) (by decide) (by decide) (by omega) (by omega)).mono (by decide) (by omega) (by omega) (by decide))
  generalize (⟨L6, S6, p1.put, 0, 0, 0⟩ : Py).play (os2.take 100) = p2 at HPL HOK2
  have hpb := HPB.out
  clear HSC hb7 HPZ6 HU6 HB6 hpz7
  go_wp2_with fail
  refine HPL.out.mono ?_
  rintro e w8 ⟨v2, rfl, hpz8, hb8⟩
  have HB8 := hid8 (HB7.out.trans hb8)
  have HFLU := hid8 (flushA_any hpz8 HOK2.out (by decide) (by decide) (by decide))
  clear HPL HB7 hb8 hpz8 HOK2
  go_wp2_with fail
  refine HFLU.out.mono ?_
  rintro e w9 ⟨rfl, L9, S9, hp9, hu9, hl9, -, hb9⟩
  have HB9 := hid8 (HB8.out.trans hb9)
  obtain ⟨Bs2, hwl, hne, hBT, hca, hbs, hqn, hup9, -, hn9⟩ := hu9.rest hl9
  obtain ⟨A9, ⟨⟨D9, vv9, d1, d2, d3, d4⟩, hal, hAl, hBw, hg9, ok⟩, hA9⟩ := hp9.it
  have hdl : ∀ j, D9 j → B ≤ j := fun j hj => (hAl j (d4 j hj).1).1
  have HDV := hid8 d1
  have HNA := hid8 (dv_names d1)
  have HPV := hid8 (fun j (hj : D9 j) => hA9 j (d4 j hj).1)
  have HP9 := hid8 hp9
  have hlc : (cln 1 0 Bs2).length = Bs2.length := cln_len _ _ _
  have hBl : 0 < Bs2.length := List.length_pos_iff.2 hne
  have hnl : (Land.dnames S9.P.now).length ≤ 42 := by
    have := hwl.cnt
    unfold Land.dnames
    rw [List.length_map]
    omega
  have hnp : 0 < (Land.dnames S9.P.now).length := by
    have : (1 : Int) ∈ segs S9.P := hwl.segs.2 ⟨by omega, by omega⟩
    exact List.length_pos_iff.2 (List.ne_nil_of_mem ((segs_iff hwl.inv).1 this).2)
  have HW9 := hid8 hwl
  have HCA := hid8 hca
  have HBS := hid8 hbs
  have HUP := hid8 hup9
  clear HFLU hb9 HB8 hu9 d1 d2 d3 d4 hal hAl hg9 ok hA9 hp9 hwl hca hbs hup9 hl9
  go_wp2_with fail
  refine HNA.out.mono ?_
  rintro e w10 ⟨an, ln, cn, rfl, hst, hb10⟩
  have hz10 := hb10.size
  have HB10 := hid8 (HB9.out.trans (hb10.mono hBw))
  have HBK0 := hid8 hb10
  have hln : (Land.dnames S9.P.now).length = ln := hst.1
  have hln0 : ¬ ((ln : Int) = 0) := by omega
  have hpk := pkn_bd sg (ln : Int) (by omega)
  obtain ⟨i0, hi0⟩ : ∃ i0 : Nat, pkn sg (ln : Int) = (i0 : Int) := ⟨(pkn sg ln).toNat, by omega⟩
  have HPI := hid8 (pick8_any sg (ln : Int) hg0 hg1 (by omega) (by omega) w10)
  rw [hi0] at hpk HPI
  obtain ⟨bb, off, rfl, hbl, hcc⟩ := hst.2.2.2.2 (by omega)
  have s1 := hcc i0 (by omega)
  have hgt : (Land.dnames S9.P.now)[i0]? = some ((Land.dnames S9.P.now).getD i0 ByteArray.empty) := by
    rw [List.getD_eq_getElem?_getD, List.getElem?_eq_getElem (by omega)]
    rfl
  have hnm := hst.2.2.2.1 _ (List.mem_of_getElem? hgt)
  obtain ⟨ix, hix⟩ := (name_look HW9.out.inv).1 (List.mem_of_getElem? hgt)
  obtain ⟨ii, hii, hnme⟩ := HW9.out.only _ _ hix
  rw [hnme] at s1 hnm
  have HDV10 := hid8 (HDV.out.below hb10)
  have HRD := hid8 (dv_read HDV10.out (nm8 (1 + ii)) hnm)
  obtain ⟨y, hy⟩ : ∃ y, (cln 1 0 Bs2)[ii]? = some y := ⟨_, List.getElem?_eq_getElem hii⟩
  have hrd := HW9.out.read hy
  have hyp := cln_pos Bs2 1 0 y (List.mem_of_getElem? hy)
  have hyb := HW9.out.bytes hy
  rw [HUP.out.2, hrd] at HRD
  simp only [Bool.false_eq_true, if_false] at HRD
  have hi0l : (i0 : Int) < (ln : Int) := by omega
  clear HNA hst hb10 HB9 hcc hgt hix hnme hrd hi0
  go_wp2_with fail
  refine HPI.out.mono ?_
  rintro e w11 ⟨rfl, rfl⟩
  clear HPI
  go_wp2_with fail
  refine HRD.out.mono ?_
  rintro e w12 ⟨u, rfl, hown, hb12⟩
  have hz12 := hb12.size
  have HBK := hid8 (HBK0.out.trans (hb12.mono hz10))
  have HB12 := hid8 (HB10.out.trans (hb12.mono (by omega)))
  have HDV12 := hid8 (HDV10.out.below hb12)
  obtain ⟨ub, un, uc, rfl, hsl, -⟩ := hown.sl' hyb.1
  have hun : y.1.length = un := hsl.1
  have hun0 : ¬ ((un : Int) = 0) := by omega
  have hpk2 := pkn_bd at_ (un : Int) (by omega)
  obtain ⟨k0, hk0⟩ : ∃ k0 : Nat, pkn at_ (un : Int) = (k0 : Int) := ⟨(pkn at_ un).toNat, by omega⟩
  have HPI := hid8 (pick9_any at_ (un : Int) ha0 ha1 (by omega) (by have := hyb.2.2; omega) w12)
  rw [hk0] at hpk2 HPI
  obtain ⟨b2, off2, rfl, hbl2, hcc2⟩ := hsl.2.2.2.2.2 (by omega)
  have c2 := hcc2 k0 (by omega)
  have hv0 : 0 ≤ y.1.getD k0 0 ∧ y.1.getD k0 0 ≤ 255 := by
    have hm : y.1.getD k0 0 ∈ y.1 := by
      rw [List.getD_eq_getElem?_getD, List.getElem?_eq_getElem (by omega)]
      exact List.getElem_mem _
    exact hyb.1 _ hm
  obtain ⟨hzb, hz0⟩ := xor8 hv0 ⟨hy0, hy1⟩
  have HY := hid8 hy
  have hk0l : (k0 : Int) < (un : Int) := by omega
  obtain ⟨v0, hv0e⟩ : ∃ v0, v0 = y.1.getD k0 0 := ⟨_, rfl⟩
  rw [← hv0e] at c2 hv0 hzb hz0
  have HV0 := hid8 hv0e
  have HRDX : Hid (∃ yy, RdS 1 ⟨false, 0, []⟩ ((cln 1 0 Bs2).set ii (y.1.set k0 (bits BinOp.xor IntKind.u8 v0 by_), y.2)) yy ∧ (yy = none ∧ by_ ≠ 0 ∨ ∃ R, yy = some R ∧ R.cs = p2.put)) := hid8 (by
    have hgd : (cln 1 0 Bs2).getD ii ([], 0) = y := by rw [List.getD_eq_getElem?_getD, HY.out]; rfl
    by_cases hzv : bits BinOp.xor IntKind.u8 v0 by_ = v0
    · rw [hzv]
      have e1 : y.1.set k0 v0 = y.1 := by
        rw [HV0.out]
        refine List.ext_getElem? fun i => ?_
        by_cases hi : k0 = i
        · subst hi
          rw [List.getElem?_set_self (by omega), List.getD_eq_getElem?_getD, List.getElem?_eq_getElem (by omega)]
          rfl
        · rw [List.getElem?_set_ne hi]
      have e2 : (cln 1 0 Bs2).set ii (y.1, y.2) = cln 1 0 Bs2 := by
        refine List.ext_getElem? fun i => ?_
        by_cases hi : ii = i
        · subst hi
          rw [List.getElem?_set_self hii, HY.out]
        · rw [List.getElem?_set_ne hi]
      rw [e1, e2]
      obtain ⟨R, a1, a2, -, -⟩ := rdl_clean Bs2 1 0 ⟨false, 0, []⟩ p2.put (by decide) (fun e => by cases e) HBS.out HCA.out (by omega)
      exact ⟨some R, a1, .inr ⟨R, rfl, by rw [a2]; rfl⟩⟩
    · obtain ⟨x, a1, a2⟩ := rdl_poked Bs2 1 0 ⟨false, 0, []⟩ p2.put ii k0 (bits BinOp.xor IntKind.u8 v0 by_) y.2 (by decide) (fun e => by cases e) (Nat.le_refl _) HBS.out HCA.out (by omega) (by omega) (by rw [hgd]; omega) hzb (by rw [hgd, ← HV0.out]; exact fun e => hzv e.symm)
      rw [hgd] at a1
      refine ⟨x, a1, ?_⟩
      rcases a2 with a2 | ⟨R, a2, a3⟩
      · exact .inl ⟨a2, fun e => hzv (hz0 e)⟩
      · exact .inr ⟨R, a2, by rw [a3]; rfl⟩)
  obtain ⟨q1, q2, q3⟩ := HW9.out.poke HY.out (k := k0) (by omega) hzb
  have HPO := hid8 (dv_poke HDV12.out (nm8 (1 + ii)) hnm (k0 : Int) (bits BinOp.xor IntKind.u8 v0 by_) hzb)
  rw [q1] at HPO
  obtain ⟨yy, hrds, hyy⟩ := HRDX.out
  have HRDS := hid8 hrds
  have HYY := hid8 hyy
  have HQ2 := hid8 q2
  have HQ3 := hid8 q3
  clear HRD hown hb12 hsl hcc2 HB10 HDV10 HDV HRDX hrds hyy q1 q2 q3 hk0 hz0 hv0e hnm
  go_wp2_with fail
  refine HPI.out.mono ?_
  rintro e w13 ⟨rfl, rfl⟩
  clear HPI
  go_wp2_with fail
  refine HPO.out.mono ?_
  rintro e w14 ⟨rfl, hd14, hf14⟩
  have hz14 := hf14.size
  have HB14 := hid8 (HB12.out.trans (hf14.to (n := B) (fun k hk e => by have := hdl k e; omega) (by omega)))
  have HOP := hid8 (openP_any (B := B) hd14 (fun j hj => hj.elim (fun e => hdl j e) (fun e => by have := e.1; omega)) (by omega) (HG.out.on HB14.out) ⟨HUP.out.1, HUP.out.2⟩ HQ2.out (by rw [List.length_set]; omega) HRDS.out (HYY.out.elim (fun e => .inl e.1) (fun e => .inr e)) (by rw [HQ3.out]; show S9.P.n + 3 ≤ 65536; omega))
  have HF14 := hid8 hf14
  clear HPO hd14 hf14 HQ2 HQ3 HRDS HB12 HDV12
  go_wp2_with fail
  refine HOP.out.mono ?_
  rintro e w15 ⟨hf15, hres⟩
  have hz15 := hf15.size
  have HB15 := hid8 (HB14.out.trans (hf15.to (n := B) (fun k hk e => e.elim (fun e => by have := hdl k e; omega) (fun e => by have := e.1; omega)) (by omega)))
  clear HOP
  rcases hres with ⟨hyn, rfl⟩ | ⟨l15, vn, C15, rfl, hcr, hC⟩
  · have hby : by_ ≠ 0 := by
      rcases HYY.out with e | ⟨R, e, -⟩
      · exact e.2
      · rw [hyn] at e; cases e
    have hbb : (by_ == 0) = false := by simpa using hby
    have hbn : (by_ != 0) = true := by simpa using hby
    clear HYY
    go_wp2
    go_ret
    exact ⟨by simp [hby], by rw [← hBe]; exact HB15.out⟩
  · have hpu15 : PuR w15 (fun j => j < B) v2 p2.put := by
      have h9 := HP9.out
      have hl9 := h9.pu.lt
      refine h9.pu.keep (by omega) (fun g e => ?_) (fun j hj => ?_)
      · have g1 := hl9 g e
        have g2 : ¬ D9 g := fun k => (HPV.out g k).1 e
        exact (hf15.block g (by omega) (fun k => k.elim g2 (fun k => by have := k.1; omega))).trans ((HF14.out.block g (by omega) g2).trans (HBK.out.block g g1))
      · have g1 := h9.zl j hj
        have g2 : ¬ D9 j := fun k => (HPV.out j k).2 hj
        exact (hf15.block j (by omega) (fun k => k.elim g2 (fun k => by have := k.1; omega))).trans ((HF14.out.block j (by omega) g2).trans (HBK.out.block j g1))
    obtain ⟨ao2, cap2, rfl, hcs2⟩ := hpu15.cs8
    obtain ⟨at3, ct3, rfl, hct⟩ := hcr.read8
    have HSC := hid8 (sameCommits_any hct hcs2)
    clear hpu15 hcs2 hct hcr hC hf15 HP9 HPV HF14
    go_wp2_with fail
    refine HSC.out.mono ?_
    rintro e w16 ⟨rfl, hb16⟩
    have HB16 := hid8 (HB15.out.trans (hb16.mono (by omega)))
    clear HSC hb16
    go_wp2
    go_ret
    exact ⟨by simp, by rw [← hBe]; exact HB16.out⟩
end Go.Proofs.YtgifcgniphncdaaGreatDoor
