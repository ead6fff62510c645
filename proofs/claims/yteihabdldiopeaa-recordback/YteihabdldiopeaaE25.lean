/-
  RecordBack: what is right is read from its bytes as it is.
-/
import Derived.Test.YteihabdldiopeaaE22
import Derived.Test.YteihabdldiopeaaE23
import Derived.Test.YteihabdldiopeaaE1b
set_option linter.unusedVariables false
set_option linter.unusedSimpArgs false
namespace Go.Proofs.Yteihabdldiopeaa
open Go.RowKit Go.Maps

theorem cb_byt2 {c : Cm} (h : rightC c = true) : Byt (cb c) := by
  simp only [rightC, isT, Bool.and_eq_true, decide_eq_true_eq] at h
  exact Byt.cons (by omega) ((enc_byt _ h.1.1.1).append ((enc_byt _ (Int.natCast_nonneg _)).append (flat_byt wb _ (fun y _ => wb_byt y))))
theorem rb_byt2 {r : Rw} (h : rightR r = true) : Byt (rb r) := by
  simp only [rightR, isT, Bool.and_eq_true, decide_eq_true_eq] at h
  exact Byt.cons (by omega) ((tx_byt _).append ((tx_byt _).append (enc_byt _ h.2.1)))
theorem mb_byt2 {m : Mf} (h : rightM m = true) : Byt (mb m) := by
  obtain ⟨t, lg, ps⟩ := m
  simp only [rightM, isT, isN, Bool.and_eq_true, decide_eq_true_eq] at h
  obtain ⟨⟨⟨⟨ht0, ht1⟩, hn0, hn1⟩, hlen⟩, hup⟩ := h
  have hok := upP_mem ps [] t 0 hup (by omega) ht1
  exact Byt.cons (by omega) ((enc_byt _ ht0).append ((enc_byt _ (show 0 ≤ lg by omega)).append ((enc_byt _ (Int.natCast_nonneg _)).append (flat_byt pb ps (fun p hp => pb_byt p (hok p hp))))))
theorem cb_pos (c : Cm) : 0 < (cb c).length := by simp [cb]

/-- What was handed in, in memory. -/
structure Bk (w W : World) (cc rr mm : Array Value) : Prop where
  bl : Below w.heap.size w W
  c : W.heap[w.heap.size]? = some (.cells cc 26 (0, 0))
  r : W.heap[w.heap.size + 1]? = some (.cells rr 36 (0, 0))
  m : W.heap[w.heap.size + 1 + 1]? = some (.cells mm 44 (0, 0))
theorem Bk.on {w W W' : World} {cc rr mm : Array Value} (h : Bk w W cc rr mm) (hb : Below W.heap.size W W') : Bk w W' cc rr mm :=
  ⟨below_on h.bl hb, (hb.block _ (Array.getElem?_eq_some_iff.1 h.c).1).trans h.c, (hb.block _ (Array.getElem?_eq_some_iff.1 h.r).1).trans h.r, (hb.block _ (Array.getElem?_eq_some_iff.1 h.m).1).trans h.m⟩
theorem Bk.more {w W : World} {cc rr mm : Array Value} (h : Bk w W cc rr mm) (o : Obj) : Bk w (W.alloc o) cc rr mm := h.on ((Below.refl _ _).alloc (Nat.le_refl _) o)
theorem bel_alloc (W : World) (o : Obj) : Below W.heap.size W (W.alloc o) := (Below.refl _ _).alloc (Nat.le_refl _) o

theorem own_empty (p : World) (o : Obj) : Own ((p.alloc o).alloc (.cells #[] 5)) p.heap.size (.slice (some ⟨p.heap.size + 1, 0, none⟩) 0 0) [] := by
  refine ⟨rfl, .inr ⟨p.heap.size + 1, 0, #[], rfl, by omega, ?_, Nat.le_refl _, Nat.zero_le _, rfl, rfl⟩⟩
  have := heap_alloc_new (p.alloc o) (.cells #[] 5)
  rwa [show (p.alloc o).heap.size = p.heap.size + 1 from by simp] at this
theorem cb_short {c : Cm} (h : rightC c = true) {l : Nat} (hl : (cb c).length = l) : l ≤ 100000000 := by
  simp only [rightC, Bool.and_eq_true, decide_eq_true_eq] at h
  obtain ⟨⟨_, h64⟩, hup⟩ := h
  have h1 := flat_len wb c.ws 101 (fun x hx => wb_len x (upW_mem c.ws _ hup x hx))
  have h2 := enc_len c.time
  have h3 := enc_len c.ws.length
  rw [← hl]
  simp only [cb, List.length_cons, List.length_append]
  omega
theorem cb_long {c : Cm} (h : rightC c = true) : (cb c).length ≤ 140737488355328 - 10 := Nat.le_trans (cb_short h rfl) (by omega)
theorem back_tail {w W : World} {a : Option Addr} {l cp base : Nat} {c : Cm} (hB : Below w.heap.size w W) (o : Own W base (.slice a l cp) (cb c)) (hr : rightC c = true) (hl : (cb c).length = l) (cut : Int) (h0 : -9223372036854775808 ≤ cut) (h1 : cut ≤ 9223372036854775807) :
    ∃ k : Nat, k < l ∧ (cut < 0 → (-(cut + 1)) % (l : Int) = (k : Int) ∧ (-(cut + 1)).tmod (l : Int) = (k : Int) ∧ -((cut + 1).tmod (l : Int)) = (k : Int) ∧ (-cut - 1) % (l : Int) = (k : Int) ∧ (-1 - cut) % (l : Int) = (k : Int) ∧ (-1 + -cut) % (l : Int) = (k : Int)) ∧ (0 ≤ cut → cut % (l : Int) = (k : Int) ∧ cut.tmod (l : Int) = (k : Int)) ∧
      ∃ ac, (∀ u : World, (Instr.slice 29 (.slice a l cp) none (some (.int .i64 (k : Int))) none).run Try.prog u = .ok (.slice ac k cp) u) ∧ Sl W ac k cp ((cb c).take k) := by
  have hp := cb_pos c
  obtain ⟨q, hq0, hq⟩ : ∃ q : Int, 0 ≤ q ∧ ((cut < 0 → q = -(cut + 1)) ∧ (0 ≤ cut → q = cut)) := by
    by_cases hc : cut < 0
    · exact ⟨-(cut + 1), by omega, fun _ => rfl, fun h => absurd hc (by omega)⟩
    · exact ⟨cut, by omega, fun h => absurd h hc, fun _ => rfl⟩
  have hm0 : 0 ≤ q % (l : Int) := Int.emod_nonneg _ (by omega)
  have hm1 : q % (l : Int) < (l : Int) := Int.emod_lt_of_pos _ (by omega)
  obtain ⟨k, hk⟩ : ∃ k : Nat, q % (l : Int) = (k : Int) := ⟨(q % (l : Int)).toNat, by omega⟩
  have hkl : k < l := by omega
  obtain ⟨a', l', c', e', s', _⟩ := o.sl' (cb_byt2 hr)
  cases e'
  obtain ⟨ac, hcut, hsl⟩ := s'.upto (P := Try.prog) 29 Try.underlying29 Try.size5 k (by omega)
  have ht : q.tmod (l : Int) = (k : Int) := by rw [Int.tmod_eq_emod_of_nonneg hq0]; exact hk
  refine ⟨k, hkl, fun hc => ?_, fun hc => ?_, ac, hcut, hsl⟩
  · have e := hq.1 hc
    refine ⟨by rw [← e]; exact hk, by rw [← e]; exact ht, ?_, ?_, ?_, ?_⟩
    · rw [← Int.neg_tmod, ← e]; exact ht
    · rw [show -cut - 1 = q by omega]; exact hk
    · rw [show -1 - cut = q by omega]; exact hk
    · rw [show -1 + -cut = q by omega]; exact hk
  · have e := hq.2 hc
    rw [← e]
    exact ⟨hk, ht⟩

section
variable (w : World)
set_option maxRecDepth 100000
set_option maxHeartbeats 2000000

theorem back_walk (t : Int) (ao : Option Addr) (len cap : Nat) (ws : List Wr) (r : Rw) (tm lg : Int) (bo : Option Addr) (ln2 cp2 : Nat) (ps : List Pr) (cut : Int) (h : Seq 3 Wr.cells w ao len cap ws) (g : Seq 3 Pr.cells w bo ln2 cp2 ps) (hc0 : -9223372036854775808 ≤ cut) (hc1 : cut ≤ 9223372036854775807) :
    Calls Try.prog 8 #[.agg #[.int .i64 t, .slice ao len cap], r.v, .agg #[.int .i64 tm, .int .i64 lg, .slice bo ln2 cp2], .int .i64 cut] w fun e w' => e = .returned (.bool true) ∧ Below w.heap.size w w' := by
  obtain ⟨i0, hi, hz0, hz1, hz2⟩ := info_parts Try.info5
  have K0 : Bk w (((w.alloc (.cells #[.int .i64 t, .slice ao len cap] 26)).alloc (.cells #[.string r.key, .string r.val, .int .i64 r.time] 36)).alloc (.cells #[.int .i64 tm, .int .i64 lg, .slice bo ln2 cp2] 44)) #[.int .i64 t, .slice ao len cap] #[.string r.key, .string r.val, .int .i64 r.time] #[.int .i64 tm, .int .i64 lg, .slice bo ln2 cp2] := by
    have e1 : (w.alloc (.cells #[.int .i64 t, .slice ao len cap] 26)).heap.size = w.heap.size + 1 := by simp
    have e2 : ((w.alloc (.cells #[.int .i64 t, .slice ao len cap] 26)).alloc (.cells #[.string r.key, .string r.val, .int .i64 r.time] 36)).heap.size = w.heap.size + 1 + 1 := by simp
    refine ⟨below_more (below_more (below_more (Below.refl _ _) _) _) _, ?_, ?_, ?_⟩
    · rw [blk_alloc' _ _ _ (by omega), blk_alloc' _ _ _ (by omega)]
      exact heap_alloc_new w _
    · rw [blk_alloc' _ _ _ (by omega)]
      have := heap_alloc_new (w.alloc (.cells #[.int .i64 t, .slice ao len cap] 26)) (.cells #[.string r.key, .string r.val, .int .i64 r.time] 36)
      rwa [e1] at this
    · have := heap_alloc_new ((w.alloc (.cells #[.int .i64 t, .slice ao len cap] 26)).alloc (.cells #[.string r.key, .string r.val, .int .i64 r.time] 36)) (.cells #[.int .i64 tm, .int .i64 lg, .slice bo ln2 cp2] 44)
      rwa [e2] at this
  have HS := hide3 h
  have GS := hide3 g
  have eRV : ∀ x : Rw, x.v = .agg #[.string x.key, .string x.val, .int .i64 x.time] := fun _ => rfl
  rw [eRV]
  clear h g eRV
  go_enter Try.func8, Try.ntmps8
  go_wp2_with fail
  refine (shown_any).mono ?_
  rintro e w1 ⟨rfl, hb1⟩
  have K1 := K0.on hb1
  have c10 : w1.cell? ⟨w.heap.size, 0, none⟩ = some (.int .i64 t) := by rw [Go.Joins.cell_of_block K1.c]; rfl
  have c11 : w1.cell? ⟨w.heap.size, 1, none⟩ = some (.slice ao len cap) := by rw [Go.Joins.cell_of_block K1.c]; rfl
  have HP := PutCommit_any t (HS.out.keep K1.bl)
  have HP2 := hide3 HP
  clear HP K0 hb1
  go_wp2_with fail
  refine HP2.out.mono ?_
  rintro e w2 ⟨v2, rfl, o2, hb2⟩
  have K2 := K1.on hb2
  clear HP2 K1 c10 c11 hb2
  cases hrC : rightC ⟨t, ws⟩ with
  | false =>
    (try rw [hrC] at o2)
    replace o2 : Own w2 _ v2 ([] : List Int) := o2
    obtain ⟨a2, l2, c2, rfl, s2, _⟩ := o2.sl' (Byt.nil)
    have hl2 := s2.1
    rw [show er false = 60 from rfl]
    have hl20 : l2 = 0 := by simpa using hl2.symm
    subst hl20
    have HC := PCommit_any s2
    obtain ⟨O1, eO1⟩ : ∃ O, O = oC [] := ⟨_, rfl⟩
    obtain ⟨V1, eV1⟩ : ∃ O, O = vC [] := ⟨_, rfl⟩
    rw [← eO1, ← eV1] at HC
    have HC2 := hide3 HC
    clear HC o2 eO1 eV1
    go_wp2_with fail
    refine HC2.out.mono ?_
    rintro e w3 ⟨v3, rfl, o3, hb3⟩
    obtain ⟨a3, l3, c3, rfl⟩ := row_form o3
    have K4 := (K2.on hb3).more (.cells #[.int .i64 O1.time, .slice a3 l3 c3] 26)
    clear HC2 K2 o3 hb3 s2
    cases hrR : rightR r with
    | false =>
      have y0 : (w3.alloc (.cells #[.int .i64 O1.time, .slice a3 l3 c3] 26)).cell? ⟨w.heap.size + 1, 0, none⟩ = some (.string r.key) := by rw [Go.Joins.cell_of_block K4.r]; rfl
      have y1 : (w3.alloc (.cells #[.int .i64 O1.time, .slice a3 l3 c3] 26)).cell? ⟨w.heap.size + 1, 1, none⟩ = some (.string r.val) := by rw [Go.Joins.cell_of_block K4.r]; rfl
      have y2 : (w3.alloc (.cells #[.int .i64 O1.time, .slice a3 l3 c3] 26)).cell? ⟨w.heap.size + 1, 2, none⟩ = some (.int .i64 r.time) := by rw [Go.Joins.cell_of_block K4.r]; rfl
      have HQ := hide3 (@PutRow_any (w3.alloc (.cells #[.int .i64 O1.time, .slice a3 l3 c3] 26)) r)
      go_wp2_with fail
      refine HQ.out.mono ?_
      rintro e w5 ⟨v5, rfl, o5, hb5⟩
      have K5 := K4.on hb5
      clear HQ K4 y0 y1 y2 hb5
      rw [hrR] at o5 ⊢
      replace o5 : Own w5 _ v5 ([] : List Int) := o5
      obtain ⟨a5, l5, c5, rfl, s5, _⟩ := o5.sl' (Byt.nil)
      rw [show er false = 60 from rfl]
      have HT := PRow_any s5
      obtain ⟨O2, eO2⟩ : ∃ O, O = oR [] := ⟨_, rfl⟩
      obtain ⟨V2, eV2⟩ : ∃ O, O = vR [] := ⟨_, rfl⟩
      rw [← eO2, ← eV2] at HT
      rw [show O2.v = .agg #[.string O2.key, .string O2.val, .int .i64 O2.time] from rfl] at HT
      clear eO2 eV2
      have HT2 := hide3 HT
      clear HT o5 s5
      go_wp2_with fail
      refine HT2.out.mono ?_
      rintro e w6 ⟨rfl, hb6⟩
      have K6 := (K5.on hb6).more (.cells #[.string O2.key, .string O2.val, .int .i64 O2.time] 36)
      clear HT2 K5 hb6
      cases hrM : rightM ⟨tm, lg, ps⟩ with
      | false =>
        have z0 : (w6.alloc (.cells #[.string O2.key, .string O2.val, .int .i64 O2.time] 36)).cell? ⟨w.heap.size + 1 + 1, 0, none⟩ = some (.int .i64 tm) := by rw [Go.Joins.cell_of_block K6.m]; rfl
        have z1 : (w6.alloc (.cells #[.string O2.key, .string O2.val, .int .i64 O2.time] 36)).cell? ⟨w.heap.size + 1 + 1, 1, none⟩ = some (.int .i64 lg) := by rw [Go.Joins.cell_of_block K6.m]; rfl
        have z2 : (w6.alloc (.cells #[.string O2.key, .string O2.val, .int .i64 O2.time] 36)).cell? ⟨w.heap.size + 1 + 1, 2, none⟩ = some (.slice bo ln2 cp2) := by rw [Go.Joins.cell_of_block K6.m]; rfl
        have HQ := hide3 (PutManifest_any tm lg (GS.out.keep K6.bl))
        go_wp2_with fail
        refine HQ.out.mono ?_
        rintro e w7 ⟨v7, rfl, o7, hb7⟩
        have K7 := K6.on hb7
        clear HQ K6 z0 z1 z2 hb7
        rw [hrM] at o7 ⊢
        replace o7 : Own w7 _ v7 ([] : List Int) := o7
        obtain ⟨a7, l7, c7, rfl, s7, _⟩ := o7.sl' (Byt.nil)
        rw [show er false = 60 from rfl]
        have HT := PManifest_any s7
        obtain ⟨O3, eO3⟩ : ∃ O, O = oM [] := ⟨_, rfl⟩
        obtain ⟨V3, eV3⟩ : ∃ O, O = vM [] := ⟨_, rfl⟩
        rw [← eO3, ← eV3] at HT
        clear eO3 eV3
        have HT2 := hide3 HT
        clear HT o7 s7
        go_wp2_with fail
        refine HT2.out.mono ?_
        rintro e w8 ⟨v8, rfl, o8, hb8⟩
        obtain ⟨a8, l8, c8, rfl⟩ := row_form o8
        have hD8 := bel_alloc w8 (.cells #[.int .i64 O3.time, .int .i64 O3.log, .slice a8 l8 c8] 44)
        have K8 := (K7.on hb8).on hD8
        have K9 := K8
        clear HT2 K7 K8 o8 hb8
        go_wp2
        go_ret
        exact ⟨rfl, K9.bl⟩
      | true =>
        have z0 : (w6.alloc (.cells #[.string O2.key, .string O2.val, .int .i64 O2.time] 36)).cell? ⟨w.heap.size + 1 + 1, 0, none⟩ = some (.int .i64 tm) := by rw [Go.Joins.cell_of_block K6.m]; rfl
        have z1 : (w6.alloc (.cells #[.string O2.key, .string O2.val, .int .i64 O2.time] 36)).cell? ⟨w.heap.size + 1 + 1, 1, none⟩ = some (.int .i64 lg) := by rw [Go.Joins.cell_of_block K6.m]; rfl
        have z2 : (w6.alloc (.cells #[.string O2.key, .string O2.val, .int .i64 O2.time] 36)).cell? ⟨w.heap.size + 1 + 1, 2, none⟩ = some (.slice bo ln2 cp2) := by rw [Go.Joins.cell_of_block K6.m]; rfl
        have HQ := hide3 (PutManifest_any tm lg (GS.out.keep K6.bl))
        go_wp2_with fail
        refine HQ.out.mono ?_
        rintro e w7 ⟨v7, rfl, o7, hb7⟩
        have K7 := K6.on hb7
        clear HQ K6 z0 z1 z2 hb7
        rw [hrM] at o7 ⊢
        replace o7 : Own w7 _ v7 (mb ⟨tm, lg, ps⟩) := o7
        obtain ⟨a7, l7, c7, rfl, s7, _⟩ := o7.sl' (mb_byt2 hrM)
        rw [show er true = 0 from rfl]
        have HT := PManifest_any s7
        rw [(rd_M hrM).1, (rd_M hrM).2] at HT
        simp only [] at HT
        have HT2 := hide3 HT
        clear HT o7 s7
        go_wp2_with fail
        refine HT2.out.mono ?_
        rintro e w8 ⟨v8, rfl, o8, hb8⟩
        obtain ⟨a8, l8, c8, rfl⟩ := row_form o8
        have hD8 := bel_alloc w8 (.cells #[.int .i64 tm, .int .i64 lg, .slice a8 l8 c8] 44)
        have K8 := (K7.on hb8).on hD8
        have o8' := row_below o8 hD8
        have s8 := heap_alloc_new w8 (.cells #[.int .i64 tm, .int .i64 lg, .slice a8 l8 c8] 44)
        have u0 : (w8.alloc (.cells #[.int .i64 tm, .int .i64 lg, .slice a8 l8 c8] 44)).cell? ⟨w8.heap.size, 0, none⟩ = some (.int .i64 tm) := by rw [Go.Joins.cell_of_block s8]; rfl
        have u1 : (w8.alloc (.cells #[.int .i64 tm, .int .i64 lg, .slice a8 l8 c8] 44)).cell? ⟨w8.heap.size, 1, none⟩ = some (.int .i64 lg) := by rw [Go.Joins.cell_of_block s8]; rfl
        have u2 : (w8.alloc (.cells #[.int .i64 tm, .int .i64 lg, .slice a8 l8 c8] 44)).cell? ⟨w8.heap.size, 2, none⟩ = some (.slice a8 l8 c8) := by rw [Go.Joins.cell_of_block s8]; rfl
        have z0 : (w8.alloc (.cells #[.int .i64 tm, .int .i64 lg, .slice a8 l8 c8] 44)).cell? ⟨w.heap.size + 1 + 1, 0, none⟩ = some (.int .i64 tm) := by rw [Go.Joins.cell_of_block K8.m]; rfl
        have z1 : (w8.alloc (.cells #[.int .i64 tm, .int .i64 lg, .slice a8 l8 c8] 44)).cell? ⟨w.heap.size + 1 + 1, 1, none⟩ = some (.int .i64 lg) := by rw [Go.Joins.cell_of_block K8.m]; rfl
        have z2 : (w8.alloc (.cells #[.int .i64 tm, .int .i64 lg, .slice a8 l8 c8] 44)).cell? ⟨w.heap.size + 1 + 1, 2, none⟩ = some (.slice bo ln2 cp2) := by rw [Go.Joins.cell_of_block K8.m]; rfl
        have HSM := hide3 (sameManifest_any tm lg (GS.out.keep K8.bl) (row_seq o8' (fun _ => rfl)))
        clear HT2 K7 o8 hb8 s8 hD8
        go_wp2_with fail
        refine HSM.out.mono ?_
        rintro e w9 ⟨rfl, hb9⟩
        have K9 := K8.on hb9
        clear HSM K8 o8' hb9 u0 u1 u2 z0 z1 z2
        go_wp2
        go_ret
        exact ⟨rfl, K9.bl⟩
    | true =>
      have y0 : (w3.alloc (.cells #[.int .i64 O1.time, .slice a3 l3 c3] 26)).cell? ⟨w.heap.size + 1, 0, none⟩ = some (.string r.key) := by rw [Go.Joins.cell_of_block K4.r]; rfl
      have y1 : (w3.alloc (.cells #[.int .i64 O1.time, .slice a3 l3 c3] 26)).cell? ⟨w.heap.size + 1, 1, none⟩ = some (.string r.val) := by rw [Go.Joins.cell_of_block K4.r]; rfl
      have y2 : (w3.alloc (.cells #[.int .i64 O1.time, .slice a3 l3 c3] 26)).cell? ⟨w.heap.size + 1, 2, none⟩ = some (.int .i64 r.time) := by rw [Go.Joins.cell_of_block K4.r]; rfl
      have HQ := hide3 (@PutRow_any (w3.alloc (.cells #[.int .i64 O1.time, .slice a3 l3 c3] 26)) r)
      go_wp2_with fail
      refine HQ.out.mono ?_
      rintro e w5 ⟨v5, rfl, o5, hb5⟩
      have K5 := K4.on hb5
      clear HQ K4 y0 y1 y2 hb5
      rw [hrR] at o5 ⊢
      replace o5 : Own w5 _ v5 (rb r) := o5
      obtain ⟨a5, l5, c5, rfl, s5, _⟩ := o5.sl' (rb_byt2 hrR)
      rw [show er true = 0 from rfl]
      have HT := PRow_any s5
      rw [(rd_R hrR).1, (rd_R hrR).2] at HT
      rw [show r.v = .agg #[.string r.key, .string r.val, .int .i64 r.time] from rfl] at HT
      have HT2 := hide3 HT
      clear HT o5 s5
      go_wp2_with fail
      refine HT2.out.mono ?_
      rintro e w6 ⟨rfl, hb6⟩
      have K6 := (K5.on hb6).more (.cells #[.string r.key, .string r.val, .int .i64 r.time] 36)
      have s6 := heap_alloc_new w6 (.cells #[.string r.key, .string r.val, .int .i64 r.time] 36)
      have u0 : (w6.alloc (.cells #[.string r.key, .string r.val, .int .i64 r.time] 36)).cell? ⟨w6.heap.size, 0, none⟩ = some (.string r.key) := by rw [Go.Joins.cell_of_block s6]; rfl
      have u1 : (w6.alloc (.cells #[.string r.key, .string r.val, .int .i64 r.time] 36)).cell? ⟨w6.heap.size, 1, none⟩ = some (.string r.val) := by rw [Go.Joins.cell_of_block s6]; rfl
      have u2 : (w6.alloc (.cells #[.string r.key, .string r.val, .int .i64 r.time] 36)).cell? ⟨w6.heap.size, 2, none⟩ = some (.int .i64 r.time) := by rw [Go.Joins.cell_of_block s6]; rfl
      have y0 : (w6.alloc (.cells #[.string r.key, .string r.val, .int .i64 r.time] 36)).cell? ⟨w.heap.size + 1, 0, none⟩ = some (.string r.key) := by rw [Go.Joins.cell_of_block K6.r]; rfl
      have y1 : (w6.alloc (.cells #[.string r.key, .string r.val, .int .i64 r.time] 36)).cell? ⟨w.heap.size + 1, 1, none⟩ = some (.string r.val) := by rw [Go.Joins.cell_of_block K6.r]; rfl
      have y2 : (w6.alloc (.cells #[.string r.key, .string r.val, .int .i64 r.time] 36)).cell? ⟨w.heap.size + 1, 2, none⟩ = some (.int .i64 r.time) := by rw [Go.Joins.cell_of_block K6.r]; rfl
      clear HT2 K5 hb6
      cases hrM : rightM ⟨tm, lg, ps⟩ with
      | false =>
        have z0 : (w6.alloc (.cells #[.string r.key, .string r.val, .int .i64 r.time] 36)).cell? ⟨w.heap.size + 1 + 1, 0, none⟩ = some (.int .i64 tm) := by rw [Go.Joins.cell_of_block K6.m]; rfl
        have z1 : (w6.alloc (.cells #[.string r.key, .string r.val, .int .i64 r.time] 36)).cell? ⟨w.heap.size + 1 + 1, 1, none⟩ = some (.int .i64 lg) := by rw [Go.Joins.cell_of_block K6.m]; rfl
        have z2 : (w6.alloc (.cells #[.string r.key, .string r.val, .int .i64 r.time] 36)).cell? ⟨w.heap.size + 1 + 1, 2, none⟩ = some (.slice bo ln2 cp2) := by rw [Go.Joins.cell_of_block K6.m]; rfl
        have HQ := hide3 (PutManifest_any tm lg (GS.out.keep K6.bl))
        go_wp2_with fail
        refine HQ.out.mono ?_
        rintro e w7 ⟨v7, rfl, o7, hb7⟩
        have K7 := K6.on hb7
        clear HQ K6 z0 z1 z2 hb7 s6 u0 u1 u2 y0 y1 y2
        rw [hrM] at o7 ⊢
        replace o7 : Own w7 _ v7 ([] : List Int) := o7
        obtain ⟨a7, l7, c7, rfl, s7, _⟩ := o7.sl' (Byt.nil)
        rw [show er false = 60 from rfl]
        have HT := PManifest_any s7
        obtain ⟨O3, eO3⟩ : ∃ O, O = oM [] := ⟨_, rfl⟩
        obtain ⟨V3, eV3⟩ : ∃ O, O = vM [] := ⟨_, rfl⟩
        rw [← eO3, ← eV3] at HT
        clear eO3 eV3
        have HT2 := hide3 HT
        clear HT o7 s7
        go_wp2_with fail
        refine HT2.out.mono ?_
        rintro e w8 ⟨v8, rfl, o8, hb8⟩
        obtain ⟨a8, l8, c8, rfl⟩ := row_form o8
        have hD8 := bel_alloc w8 (.cells #[.int .i64 O3.time, .int .i64 O3.log, .slice a8 l8 c8] 44)
        have K8 := (K7.on hb8).on hD8
        have K9 := K8
        clear HT2 K7 K8 o8 hb8
        go_wp2
        go_ret
        exact ⟨rfl, K9.bl⟩
      | true =>
        have z0 : (w6.alloc (.cells #[.string r.key, .string r.val, .int .i64 r.time] 36)).cell? ⟨w.heap.size + 1 + 1, 0, none⟩ = some (.int .i64 tm) := by rw [Go.Joins.cell_of_block K6.m]; rfl
        have z1 : (w6.alloc (.cells #[.string r.key, .string r.val, .int .i64 r.time] 36)).cell? ⟨w.heap.size + 1 + 1, 1, none⟩ = some (.int .i64 lg) := by rw [Go.Joins.cell_of_block K6.m]; rfl
        have z2 : (w6.alloc (.cells #[.string r.key, .string r.val, .int .i64 r.time] 36)).cell? ⟨w.heap.size + 1 + 1, 2, none⟩ = some (.slice bo ln2 cp2) := by rw [Go.Joins.cell_of_block K6.m]; rfl
        have HQ := hide3 (PutManifest_any tm lg (GS.out.keep K6.bl))
        go_wp2_with fail
        refine HQ.out.mono ?_
        rintro e w7 ⟨v7, rfl, o7, hb7⟩
        have K7 := K6.on hb7
        clear HQ K6 z0 z1 z2 hb7 s6 u0 u1 u2 y0 y1 y2
        rw [hrM] at o7 ⊢
        replace o7 : Own w7 _ v7 (mb ⟨tm, lg, ps⟩) := o7
        obtain ⟨a7, l7, c7, rfl, s7, _⟩ := o7.sl' (mb_byt2 hrM)
        rw [show er true = 0 from rfl]
        have HT := PManifest_any s7
        rw [(rd_M hrM).1, (rd_M hrM).2] at HT
        simp only [] at HT
        have HT2 := hide3 HT
        clear HT o7 s7
        go_wp2_with fail
        refine HT2.out.mono ?_
        rintro e w8 ⟨v8, rfl, o8, hb8⟩
        obtain ⟨a8, l8, c8, rfl⟩ := row_form o8
        have hD8 := bel_alloc w8 (.cells #[.int .i64 tm, .int .i64 lg, .slice a8 l8 c8] 44)
        have K8 := (K7.on hb8).on hD8
        have o8' := row_below o8 hD8
        have s8 := heap_alloc_new w8 (.cells #[.int .i64 tm, .int .i64 lg, .slice a8 l8 c8] 44)
        have u0 : (w8.alloc (.cells #[.int .i64 tm, .int .i64 lg, .slice a8 l8 c8] 44)).cell? ⟨w8.heap.size, 0, none⟩ = some (.int .i64 tm) := by rw [Go.Joins.cell_of_block s8]; rfl
        have u1 : (w8.alloc (.cells #[.int .i64 tm, .int .i64 lg, .slice a8 l8 c8] 44)).cell? ⟨w8.heap.size, 1, none⟩ = some (.int .i64 lg) := by rw [Go.Joins.cell_of_block s8]; rfl
        have u2 : (w8.alloc (.cells #[.int .i64 tm, .int .i64 lg, .slice a8 l8 c8] 44)).cell? ⟨w8.heap.size, 2, none⟩ = some (.slice a8 l8 c8) := by rw [Go.Joins.cell_of_block s8]; rfl
        have z0 : (w8.alloc (.cells #[.int .i64 tm, .int .i64 lg, .slice a8 l8 c8] 44)).cell? ⟨w.heap.size + 1 + 1, 0, none⟩ = some (.int .i64 tm) := by rw [Go.Joins.cell_of_block K8.m]; rfl
        have z1 : (w8.alloc (.cells #[.int .i64 tm, .int .i64 lg, .slice a8 l8 c8] 44)).cell? ⟨w.heap.size + 1 + 1, 1, none⟩ = some (.int .i64 lg) := by rw [Go.Joins.cell_of_block K8.m]; rfl
        have z2 : (w8.alloc (.cells #[.int .i64 tm, .int .i64 lg, .slice a8 l8 c8] 44)).cell? ⟨w.heap.size + 1 + 1, 2, none⟩ = some (.slice bo ln2 cp2) := by rw [Go.Joins.cell_of_block K8.m]; rfl
        have HSM := hide3 (sameManifest_any tm lg (GS.out.keep K8.bl) (row_seq o8' (fun _ => rfl)))
        clear HT2 K7 o8 hb8 s8 hD8
        go_wp2_with fail
        refine HSM.out.mono ?_
        rintro e w9 ⟨rfl, hb9⟩
        have K9 := K8.on hb9
        clear HSM K8 o8' hb9 u0 u1 u2 z0 z1 z2
        go_wp2
        go_ret
        exact ⟨rfl, K9.bl⟩
  | true =>
    (try rw [hrC] at o2)
    replace o2 : Own w2 _ v2 (cb ⟨t, ws⟩) := o2
    obtain ⟨a2, l2, c2, rfl, s2, _⟩ := o2.sl' (cb_byt2 hrC)
    have hl2 := s2.1
    rw [show er true = 0 from rfl]
    have HC := PCommit_any s2
    rw [(rd_C hrC).1, (rd_C hrC).2] at HC
    have HC2 := hide3 HC
    have HOB := hide3 o2
    clear HC o2
    go_wp2_with fail
    refine HC2.out.mono ?_
    rintro e w3 ⟨v3, rfl, o3, hb3⟩
    obtain ⟨a3, l3, c3, rfl⟩ := row_form o3
    simp only [] at o3 ⊢
    have hD := bel_alloc w3 (.cells #[.int .i64 t, .slice a3 l3 c3] 26)
    have K3 := (K2.on hb3).on hD
    have o3' := row_below o3 hD
    have ob3 := (HOB.out.keep hb3).alloc' (.cells #[.int .i64 t, .slice a3 l3 c3] 26)
    have d3 := heap_alloc_new w3 (.cells #[.int .i64 t, .slice a3 l3 c3] 26)
    have d30 : (w3.alloc (.cells #[.int .i64 t, .slice a3 l3 c3] 26)).cell? ⟨w3.heap.size, 0, none⟩ = some (.int .i64 t) := by rw [Go.Joins.cell_of_block d3]; rfl
    have d31 : (w3.alloc (.cells #[.int .i64 t, .slice a3 l3 c3] 26)).cell? ⟨w3.heap.size, 1, none⟩ = some (.slice a3 l3 c3) := by rw [Go.Joins.cell_of_block d3]; rfl
    have x0 : (w3.alloc (.cells #[.int .i64 t, .slice a3 l3 c3] 26)).cell? ⟨w.heap.size, 0, none⟩ = some (.int .i64 t) := by rw [Go.Joins.cell_of_block K3.c]; rfl
    have x1 : (w3.alloc (.cells #[.int .i64 t, .slice a3 l3 c3] 26)).cell? ⟨w.heap.size, 1, none⟩ = some (.slice ao len cap) := by rw [Go.Joins.cell_of_block K3.c]; rfl
    have HSM := hide3 (sameCommit_any t (HS.out.keep K3.bl) (row_seq o3' (fun _ => rfl)))
    clear HC2 K2 o3 hb3 d3 HOB hD
    go_wp2_with fail
    refine HSM.out.mono ?_
    rintro e w4 ⟨rfl, hb4⟩
    have K4 := K3.on hb4
    have ob4 := ob3.keep hb4
    clear HSM K3 o3' ob3 hb4 d30 d31 x0 x1 s2
    cases hrR : rightR r with
    | false =>
      have y0 : w4.cell? ⟨w.heap.size + 1, 0, none⟩ = some (.string r.key) := by rw [Go.Joins.cell_of_block K4.r]; rfl
      have y1 : w4.cell? ⟨w.heap.size + 1, 1, none⟩ = some (.string r.val) := by rw [Go.Joins.cell_of_block K4.r]; rfl
      have y2 : w4.cell? ⟨w.heap.size + 1, 2, none⟩ = some (.int .i64 r.time) := by rw [Go.Joins.cell_of_block K4.r]; rfl
      have HQ := hide3 (@PutRow_any w4 r)
      go_wp2_with fail
      refine HQ.out.mono ?_
      rintro e w5 ⟨v5, rfl, o5, hb5⟩
      have K5 := K4.on hb5
      have ob5 := ob4.keep hb5
      clear HQ K4 y0 y1 y2 hb5 ob4
      rw [hrR] at o5 ⊢
      replace o5 : Own w5 _ v5 ([] : List Int) := o5
      obtain ⟨a5, l5, c5, rfl, s5, _⟩ := o5.sl' (Byt.nil)
      rw [show er false = 60 from rfl]
      have HT := PRow_any s5
      obtain ⟨O2, eO2⟩ : ∃ O, O = oR [] := ⟨_, rfl⟩
      obtain ⟨V2, eV2⟩ : ∃ O, O = vR [] := ⟨_, rfl⟩
      rw [← eO2, ← eV2] at HT
      rw [show O2.v = .agg #[.string O2.key, .string O2.val, .int .i64 O2.time] from rfl] at HT
      clear eO2 eV2
      have HT2 := hide3 HT
      clear HT o5 s5
      go_wp2_with fail
      refine HT2.out.mono ?_
      rintro e w6 ⟨rfl, hb6⟩
      have K6 := (K5.on hb6).more (.cells #[.string O2.key, .string O2.val, .int .i64 O2.time] 36)
      have ob6 := (ob5.keep hb6).alloc' (.cells #[.string O2.key, .string O2.val, .int .i64 O2.time] 36)
      clear HT2 K5 hb6 ob5
      cases hrM : rightM ⟨tm, lg, ps⟩ with
      | false =>
        have z0 : (w6.alloc (.cells #[.string O2.key, .string O2.val, .int .i64 O2.time] 36)).cell? ⟨w.heap.size + 1 + 1, 0, none⟩ = some (.int .i64 tm) := by rw [Go.Joins.cell_of_block K6.m]; rfl
        have z1 : (w6.alloc (.cells #[.string O2.key, .string O2.val, .int .i64 O2.time] 36)).cell? ⟨w.heap.size + 1 + 1, 1, none⟩ = some (.int .i64 lg) := by rw [Go.Joins.cell_of_block K6.m]; rfl
        have z2 : (w6.alloc (.cells #[.string O2.key, .string O2.val, .int .i64 O2.time] 36)).cell? ⟨w.heap.size + 1 + 1, 2, none⟩ = some (.slice bo ln2 cp2) := by rw [Go.Joins.cell_of_block K6.m]; rfl
        have HQ := hide3 (PutManifest_any tm lg (GS.out.keep K6.bl))
        go_wp2_with fail
        refine HQ.out.mono ?_
        rintro e w7 ⟨v7, rfl, o7, hb7⟩
        have K7 := K6.on hb7
        have ob7 := ob6.keep hb7
        clear HQ K6 z0 z1 z2 hb7 ob6
        rw [hrM] at o7 ⊢
        replace o7 : Own w7 _ v7 ([] : List Int) := o7
        obtain ⟨a7, l7, c7, rfl, s7, _⟩ := o7.sl' (Byt.nil)
        rw [show er false = 60 from rfl]
        have HT := PManifest_any s7
        obtain ⟨O3, eO3⟩ : ∃ O, O = oM [] := ⟨_, rfl⟩
        obtain ⟨V3, eV3⟩ : ∃ O, O = vM [] := ⟨_, rfl⟩
        rw [← eO3, ← eV3] at HT
        clear eO3 eV3
        have HT2 := hide3 HT
        clear HT o7 s7
        go_wp2_with fail
        refine HT2.out.mono ?_
        rintro e w8 ⟨v8, rfl, o8, hb8⟩
        obtain ⟨a8, l8, c8, rfl⟩ := row_form o8
        have hD8 := bel_alloc w8 (.cells #[.int .i64 O3.time, .int .i64 O3.log, .slice a8 l8 c8] 44)
        have K8 := (K7.on hb8).on hD8
        have ob8 := (ob7.keep hb8).alloc' (.cells #[.int .i64 O3.time, .int .i64 O3.log, .slice a8 l8 c8] 44)
        have K9 := K8
        have ob9 := ob8
        clear HT2 K7 K8 o8 hb8 ob7 ob8
        obtain ⟨P9, eP9⟩ : ∃ x, x = (w8.alloc (.cells #[.int .i64 O3.time, .int .i64 O3.log, .slice a8 l8 c8] 44)) := ⟨_, rfl⟩
        have hfin := back_tail (w := w) (W := (w8.alloc (.cells #[.int .i64 O3.time, .int .i64 O3.log, .slice a8 l8 c8] 44))) K9.bl ob9 hrC hl2
        obtain ⟨k, hkl, hkn, hkp, ac, hcut, hsl⟩ := hfin cut hc0 hc1
        have hlpos : (0 : Int) < (l2 : Int) := by have := cb_pos ⟨t, ws⟩; omega
        have hlne : ¬ (l2 : Int) = 0 := by omega
        have HL := PCommit_any hsl
        have hless := less_C hrC (cb_byt2 hrC) k (by omega)
        obtain ⟨O5, eO5⟩ : ∃ O, O = oC ((cb ⟨t, ws⟩).take k) := ⟨_, rfl⟩
        obtain ⟨V5, eV5⟩ : ∃ O, O = vC ((cb ⟨t, ws⟩).take k) := ⟨_, rfl⟩
        rw [← eV5] at hless
        rw [← eO5, ← eV5] at HL
        have HL2 := hide3 HL
        have OB := hide3 ob9
        have hzl : (cb ⟨t, ws⟩).length ≤ 140737488355328 - 10 := cb_long hrC
        have HLT := hide3 hzl
        have l2b : (l2 : Int) ≤ 9223372036854775807 := by omega
        have l2c : l2 ≤ 100000000 := cb_short hrC hl2
        clear HL eO5 eV5 hfin hsl eP9 P9 ob9 hzl
        by_cases hneg : cut < 0
        all_goals
          first
            | (have hk1 := hkn hneg; obtain ⟨m1, m2, m3, m4, m5, m6⟩ := hk1)
            | (have hk1 := hkp (by omega); obtain ⟨m1, m2⟩ := hk1)
          clear hkn hkp
          go_wp2_with fail
          refine HL2.out.mono ?_
          rintro e p1 ⟨q1, rfl, r1, hp1⟩
          obtain ⟨a9, l9, c9, rfl⟩ := row_form r1
          have J1 := below_more (below_on K9.bl hp1) (.cells #[.int .i64 O5.time, .slice a9 l9 c9] 26)
          have OB1 := (OB.out.keep hp1).alloc' (.cells #[.int .i64 O5.time, .slice a9 l9 c9] 26)
          have emp : Own ((p1.alloc (.cells #[.int .i64 O5.time, .slice a9 l9 c9] 26)).alloc (.cells #[] 5)) p1.heap.size (.slice (some ⟨p1.heap.size + 1, 0, none⟩) 0 0) [] := own_empty p1 _
          have OB2 := OB1.alloc' (.cells #[] 5)
          have J2 := below_more J1 (.cells #[] 5)
          have hzP : ((p1.alloc (.cells #[.int .i64 O5.time, .slice a9 l9 c9] 26)).alloc (.cells #[] 5)).heap.size = p1.heap.size + 2 := by simp
          have hpw : w.heap.size ≤ p1.heap.size := (below_on K9.bl hp1).size
          obtain ⟨a2', l2', c2', e2', s2', hlow'⟩ := OB2.sl' (cb_byt2 hrC)
          cases e2'
          have SB := hide3 s2'
          have C1 : Below (w8.alloc (.cells #[.int .i64 O3.time, .int .i64 O3.log, .slice a8 l8 c8] 44)).heap.size (w8.alloc (.cells #[.int .i64 O3.time, .int .i64 O3.log, .slice a8 l8 c8] 44)) ((p1.alloc (.cells #[.int .i64 O5.time, .slice a9 l9 c9] 26)).alloc (.cells #[] 5)) := below_more (below_more hp1 _) _
          have hsP := hp1.size
          clear HL2 r1 hp1 OB1 J1
          go_wp2_with (first
            | (at_builtin; refine Hid.out ?_)
            | fail)
          refine hide3 ?_
          refine wpList_append_sl rfl _ _ 29 rfl p1.heap.size i0 Try.underlying29 hi hz0 hz1 hz2 (.slice (some ⟨p1.heap.size + 1, 0, none⟩) 0 0) [] rfl emp a2 l2 c2 (cb ⟨t, ws⟩) rfl SB.out (by simp; omega) (by omega) ?_
          intro v11 p2 o11 hb11
          rw [List.nil_append] at o11
          have C2 : Below (w8.alloc (.cells #[.int .i64 O3.time, .int .i64 O3.log, .slice a8 l8 c8] 44)).heap.size (w8.alloc (.cells #[.int .i64 O3.time, .int .i64 O3.log, .slice a8 l8 c8] 44)) p2 := C1.trans (hb11.mono hsP)
          have J3 : Below w.heap.size w p2 := J2.trans (hb11.mono hpw)
          have hsp2 := hb11.size
          have O11 := hide3 o11
          clear emp OB2 J2 C1 SB s2' hlow' hb11 o11
          go_frame
          go_wp2_with (first
            | (at_builtin; refine Hid.out ?_)
            | fail)
          refine hide3 ?_
          refine wpList_append_own _ rfl _ _ 29 rfl p1.heap.size 5 i0 (.int .u8 0) 1 1 Try.underlying29 hi hz0 hz1 hz2 rfl (by decide) v11 _ _ rfl (World.ownsRow.alloc O11.out _) ⟨p2.heap.size, 0, none⟩ 1 1 [.int .u8 0] rfl rfl (cell_one_new _ _ _) (one_u8 _) (by unfold maxLen; omega) (by omega) (by simp; omega) ?_
          intro v12 p3 own12 hgrow12 _
          have g12 := Own.grown (World.ownsRow.alloc O11.out (.cells #[.int .u8 0] 5)) hgrow12 (by simp; omega)
          have o12 := Own.snoc own12
          have C3 : Below (w8.alloc (.cells #[.int .i64 O3.time, .int .i64 O3.log, .slice a8 l8 c8] 44)).heap.size (w8.alloc (.cells #[.int .i64 O3.time, .int .i64 O3.log, .slice a8 l8 c8] 44)) p3 := (below_more C2 (.cells #[.int .u8 0] 5)).trans (g12.mono hsP)
          have J4 : Below w.heap.size w p3 := (below_more J3 (.cells #[.int .u8 0] 5)).trans (g12.mono hpw)
          obtain ⟨a12, l12, c12, rfl, s12, _⟩ := o12.sl' ((cb_byt2 hrC).append (Byt.cons (by omega) Byt.nil))
          have HM := PCommit_any s12
          have hmore := more_C hrC
          obtain ⟨O6, eO6⟩ : ∃ O, O = oC (cb ⟨t, ws⟩ ++ [0]) := ⟨_, rfl⟩
          obtain ⟨V6, eV6⟩ : ∃ O, O = vC (cb ⟨t, ws⟩ ++ [0]) := ⟨_, rfl⟩
          rw [← eV6] at hmore
          rw [← eO6, ← eV6] at HM
          have HM2 := hide3 HM
          clear HM eO6 eV6 own12 hgrow12 o12 s12 O11 C2 J3 g12
          go_frame
          go_wp2_with fail
          refine HM2.out.mono ?_
          rintro e p4 ⟨q4, rfl, r4, hp4⟩
          obtain ⟨a13, l13, c13, rfl⟩ := row_form r4
          have C4 : Below (w8.alloc (.cells #[.int .i64 O3.time, .int .i64 O3.log, .slice a8 l8 c8] 44)).heap.size (w8.alloc (.cells #[.int .i64 O3.time, .int .i64 O3.log, .slice a8 l8 c8] 44)) (p4.alloc (.cells #[.int .i64 O6.time, .slice a13 l13 c13] 26)) := below_more (below_on C3 hp4) _
          have J5 : Below w.heap.size w (p4.alloc (.cells #[.int .i64 O6.time, .slice a13 l13 c13] 26)) := below_more (below_on J4 hp4) _
          obtain ⟨a14, l14, c14, e14, s14, _⟩ := (OB.out.keep C4).sl' (cb_byt2 hrC)
          cases e14
          have HR := PRow_any s14
          have hrow := row_C ⟨t, ws⟩
          obtain ⟨O7, eO7⟩ : ∃ O, O = oR (cb ⟨t, ws⟩) := ⟨_, rfl⟩
          obtain ⟨V7, eV7⟩ : ∃ O, O = vR (cb ⟨t, ws⟩) := ⟨_, rfl⟩
          rw [← eV7] at hrow
          rw [← eO7, ← eV7] at HR
          rw [show O7.v = .agg #[.string O7.key, .string O7.val, .int .i64 O7.time] from rfl] at HR
          have HR2 := hide3 HR
          clear HR eO7 eV7 HM2 r4 hp4 C3 J4 s14 C4
          go_wp2_with fail
          refine HR2.out.mono ?_
          rintro e p5 ⟨rfl, hp5⟩
          have J6 := below_more (below_on J5 hp5) (.cells #[.string O7.key, .string O7.val, .int .i64 O7.time] 36)
          have n1 : (V5.2 == 0) = false := by simpa using hless
          have n2 : (V5.2 != 0) = true := by simpa using hless
          clear HR2 J5 hp5
          go_wp2
          go_ret
          exact ⟨rfl, J6⟩
      | true =>
        have z0 : (w6.alloc (.cells #[.string O2.key, .string O2.val, .int .i64 O2.time] 36)).cell? ⟨w.heap.size + 1 + 1, 0, none⟩ = some (.int .i64 tm) := by rw [Go.Joins.cell_of_block K6.m]; rfl
        have z1 : (w6.alloc (.cells #[.string O2.key, .string O2.val, .int .i64 O2.time] 36)).cell? ⟨w.heap.size + 1 + 1, 1, none⟩ = some (.int .i64 lg) := by rw [Go.Joins.cell_of_block K6.m]; rfl
        have z2 : (w6.alloc (.cells #[.string O2.key, .string O2.val, .int .i64 O2.time] 36)).cell? ⟨w.heap.size + 1 + 1, 2, none⟩ = some (.slice bo ln2 cp2) := by rw [Go.Joins.cell_of_block K6.m]; rfl
        have HQ := hide3 (PutManifest_any tm lg (GS.out.keep K6.bl))
        go_wp2_with fail
        refine HQ.out.mono ?_
        rintro e w7 ⟨v7, rfl, o7, hb7⟩
        have K7 := K6.on hb7
        have ob7 := ob6.keep hb7
        clear HQ K6 z0 z1 z2 hb7 ob6
        rw [hrM] at o7 ⊢
        replace o7 : Own w7 _ v7 (mb ⟨tm, lg, ps⟩) := o7
        obtain ⟨a7, l7, c7, rfl, s7, _⟩ := o7.sl' (mb_byt2 hrM)
        rw [show er true = 0 from rfl]
        have HT := PManifest_any s7
        rw [(rd_M hrM).1, (rd_M hrM).2] at HT
        simp only [] at HT
        have HT2 := hide3 HT
        clear HT o7 s7
        go_wp2_with fail
        refine HT2.out.mono ?_
        rintro e w8 ⟨v8, rfl, o8, hb8⟩
        obtain ⟨a8, l8, c8, rfl⟩ := row_form o8
        have hD8 := bel_alloc w8 (.cells #[.int .i64 tm, .int .i64 lg, .slice a8 l8 c8] 44)
        have K8 := (K7.on hb8).on hD8
        have ob8 := (ob7.keep hb8).alloc' (.cells #[.int .i64 tm, .int .i64 lg, .slice a8 l8 c8] 44)
        have o8' := row_below o8 hD8
        have s8 := heap_alloc_new w8 (.cells #[.int .i64 tm, .int .i64 lg, .slice a8 l8 c8] 44)
        have u0 : (w8.alloc (.cells #[.int .i64 tm, .int .i64 lg, .slice a8 l8 c8] 44)).cell? ⟨w8.heap.size, 0, none⟩ = some (.int .i64 tm) := by rw [Go.Joins.cell_of_block s8]; rfl
        have u1 : (w8.alloc (.cells #[.int .i64 tm, .int .i64 lg, .slice a8 l8 c8] 44)).cell? ⟨w8.heap.size, 1, none⟩ = some (.int .i64 lg) := by rw [Go.Joins.cell_of_block s8]; rfl
        have u2 : (w8.alloc (.cells #[.int .i64 tm, .int .i64 lg, .slice a8 l8 c8] 44)).cell? ⟨w8.heap.size, 2, none⟩ = some (.slice a8 l8 c8) := by rw [Go.Joins.cell_of_block s8]; rfl
        have z0 : (w8.alloc (.cells #[.int .i64 tm, .int .i64 lg, .slice a8 l8 c8] 44)).cell? ⟨w.heap.size + 1 + 1, 0, none⟩ = some (.int .i64 tm) := by rw [Go.Joins.cell_of_block K8.m]; rfl
        have z1 : (w8.alloc (.cells #[.int .i64 tm, .int .i64 lg, .slice a8 l8 c8] 44)).cell? ⟨w.heap.size + 1 + 1, 1, none⟩ = some (.int .i64 lg) := by rw [Go.Joins.cell_of_block K8.m]; rfl
        have z2 : (w8.alloc (.cells #[.int .i64 tm, .int .i64 lg, .slice a8 l8 c8] 44)).cell? ⟨w.heap.size + 1 + 1, 2, none⟩ = some (.slice bo ln2 cp2) := by rw [Go.Joins.cell_of_block K8.m]; rfl
        have HSM := hide3 (sameManifest_any tm lg (GS.out.keep K8.bl) (row_seq o8' (fun _ => rfl)))
        clear HT2 K7 o8 hb8 s8 hD8 ob7
        go_wp2_with fail
        refine HSM.out.mono ?_
        rintro e w9 ⟨rfl, hb9⟩
        have K9 := K8.on hb9
        have ob9 := ob8.keep hb9
        clear HSM K8 o8' hb9 u0 u1 u2 z0 z1 z2 ob8
        obtain ⟨P9, eP9⟩ : ∃ x, x = w9 := ⟨_, rfl⟩
        have hfin := back_tail (w := w) (W := w9) K9.bl ob9 hrC hl2
        obtain ⟨k, hkl, hkn, hkp, ac, hcut, hsl⟩ := hfin cut hc0 hc1
        have hlpos : (0 : Int) < (l2 : Int) := by have := cb_pos ⟨t, ws⟩; omega
        have hlne : ¬ (l2 : Int) = 0 := by omega
        have HL := PCommit_any hsl
        have hless := less_C hrC (cb_byt2 hrC) k (by omega)
        obtain ⟨O5, eO5⟩ : ∃ O, O = oC ((cb ⟨t, ws⟩).take k) := ⟨_, rfl⟩
        obtain ⟨V5, eV5⟩ : ∃ O, O = vC ((cb ⟨t, ws⟩).take k) := ⟨_, rfl⟩
        rw [← eV5] at hless
        rw [← eO5, ← eV5] at HL
        have HL2 := hide3 HL
        have OB := hide3 ob9
        have hzl : (cb ⟨t, ws⟩).length ≤ 140737488355328 - 10 := cb_long hrC
        have HLT := hide3 hzl
        have l2b : (l2 : Int) ≤ 9223372036854775807 := by omega
        have l2c : l2 ≤ 100000000 := cb_short hrC hl2
        clear HL eO5 eV5 hfin hsl eP9 P9 ob9 hzl
        by_cases hneg : cut < 0
        all_goals
          first
            | (have hk1 := hkn hneg; obtain ⟨m1, m2, m3, m4, m5, m6⟩ := hk1)
            | (have hk1 := hkp (by omega); obtain ⟨m1, m2⟩ := hk1)
          clear hkn hkp
          go_wp2_with fail
          refine HL2.out.mono ?_
          rintro e p1 ⟨q1, rfl, r1, hp1⟩
          obtain ⟨a9, l9, c9, rfl⟩ := row_form r1
          have J1 := below_more (below_on K9.bl hp1) (.cells #[.int .i64 O5.time, .slice a9 l9 c9] 26)
          have OB1 := (OB.out.keep hp1).alloc' (.cells #[.int .i64 O5.time, .slice a9 l9 c9] 26)
          have emp : Own ((p1.alloc (.cells #[.int .i64 O5.time, .slice a9 l9 c9] 26)).alloc (.cells #[] 5)) p1.heap.size (.slice (some ⟨p1.heap.size + 1, 0, none⟩) 0 0) [] := own_empty p1 _
          have OB2 := OB1.alloc' (.cells #[] 5)
          have J2 := below_more J1 (.cells #[] 5)
          have hzP : ((p1.alloc (.cells #[.int .i64 O5.time, .slice a9 l9 c9] 26)).alloc (.cells #[] 5)).heap.size = p1.heap.size + 2 := by simp
          have hpw : w.heap.size ≤ p1.heap.size := (below_on K9.bl hp1).size
          obtain ⟨a2', l2', c2', e2', s2', hlow'⟩ := OB2.sl' (cb_byt2 hrC)
          cases e2'
          have SB := hide3 s2'
          have C1 : Below w9.heap.size w9 ((p1.alloc (.cells #[.int .i64 O5.time, .slice a9 l9 c9] 26)).alloc (.cells #[] 5)) := below_more (below_more hp1 _) _
          have hsP := hp1.size
          clear HL2 r1 hp1 OB1 J1
          go_wp2_with (first
            | (at_builtin; refine Hid.out ?_)
            | fail)
          refine hide3 ?_
          refine wpList_append_sl rfl _ _ 29 rfl p1.heap.size i0 Try.underlying29 hi hz0 hz1 hz2 (.slice (some ⟨p1.heap.size + 1, 0, none⟩) 0 0) [] rfl emp a2 l2 c2 (cb ⟨t, ws⟩) rfl SB.out (by simp; omega) (by omega) ?_
          intro v11 p2 o11 hb11
          rw [List.nil_append] at o11
          have C2 : Below w9.heap.size w9 p2 := C1.trans (hb11.mono hsP)
          have J3 : Below w.heap.size w p2 := J2.trans (hb11.mono hpw)
          have hsp2 := hb11.size
          have O11 := hide3 o11
          clear emp OB2 J2 C1 SB s2' hlow' hb11 o11
          go_frame
          go_wp2_with (first
            | (at_builtin; refine Hid.out ?_)
            | fail)
          refine hide3 ?_
          refine wpList_append_own _ rfl _ _ 29 rfl p1.heap.size 5 i0 (.int .u8 0) 1 1 Try.underlying29 hi hz0 hz1 hz2 rfl (by decide) v11 _ _ rfl (World.ownsRow.alloc O11.out _) ⟨p2.heap.size, 0, none⟩ 1 1 [.int .u8 0] rfl rfl (cell_one_new _ _ _) (one_u8 _) (by unfold maxLen; omega) (by omega) (by simp; omega) ?_
          intro v12 p3 own12 hgrow12 _
          have g12 := Own.grown (World.ownsRow.alloc O11.out (.cells #[.int .u8 0] 5)) hgrow12 (by simp; omega)
          have o12 := Own.snoc own12
          have C3 : Below w9.heap.size w9 p3 := (below_more C2 (.cells #[.int .u8 0] 5)).trans (g12.mono hsP)
          have J4 : Below w.heap.size w p3 := (below_more J3 (.cells #[.int .u8 0] 5)).trans (g12.mono hpw)
          obtain ⟨a12, l12, c12, rfl, s12, _⟩ := o12.sl' ((cb_byt2 hrC).append (Byt.cons (by omega) Byt.nil))
          have HM := PCommit_any s12
          have hmore := more_C hrC
          obtain ⟨O6, eO6⟩ : ∃ O, O = oC (cb ⟨t, ws⟩ ++ [0]) := ⟨_, rfl⟩
          obtain ⟨V6, eV6⟩ : ∃ O, O = vC (cb ⟨t, ws⟩ ++ [0]) := ⟨_, rfl⟩
          rw [← eV6] at hmore
          rw [← eO6, ← eV6] at HM
          have HM2 := hide3 HM
          clear HM eO6 eV6 own12 hgrow12 o12 s12 O11 C2 J3 g12
          go_frame
          go_wp2_with fail
          refine HM2.out.mono ?_
          rintro e p4 ⟨q4, rfl, r4, hp4⟩
          obtain ⟨a13, l13, c13, rfl⟩ := row_form r4
          have C4 : Below w9.heap.size w9 (p4.alloc (.cells #[.int .i64 O6.time, .slice a13 l13 c13] 26)) := below_more (below_on C3 hp4) _
          have J5 : Below w.heap.size w (p4.alloc (.cells #[.int .i64 O6.time, .slice a13 l13 c13] 26)) := below_more (below_on J4 hp4) _
          obtain ⟨a14, l14, c14, e14, s14, _⟩ := (OB.out.keep C4).sl' (cb_byt2 hrC)
          cases e14
          have HR := PRow_any s14
          have hrow := row_C ⟨t, ws⟩
          obtain ⟨O7, eO7⟩ : ∃ O, O = oR (cb ⟨t, ws⟩) := ⟨_, rfl⟩
          obtain ⟨V7, eV7⟩ : ∃ O, O = vR (cb ⟨t, ws⟩) := ⟨_, rfl⟩
          rw [← eV7] at hrow
          rw [← eO7, ← eV7] at HR
          rw [show O7.v = .agg #[.string O7.key, .string O7.val, .int .i64 O7.time] from rfl] at HR
          have HR2 := hide3 HR
          clear HR eO7 eV7 HM2 r4 hp4 C3 J4 s14 C4
          go_wp2_with fail
          refine HR2.out.mono ?_
          rintro e p5 ⟨rfl, hp5⟩
          have J6 := below_more (below_on J5 hp5) (.cells #[.string O7.key, .string O7.val, .int .i64 O7.time] 36)
          have n1 : (V5.2 == 0) = false := by simpa using hless
          have n2 : (V5.2 != 0) = true := by simpa using hless
          clear HR2 J5 hp5
          go_wp2
          go_ret
          exact ⟨rfl, J6⟩
    | true =>
      have y0 : w4.cell? ⟨w.heap.size + 1, 0, none⟩ = some (.string r.key) := by rw [Go.Joins.cell_of_block K4.r]; rfl
      have y1 : w4.cell? ⟨w.heap.size + 1, 1, none⟩ = some (.string r.val) := by rw [Go.Joins.cell_of_block K4.r]; rfl
      have y2 : w4.cell? ⟨w.heap.size + 1, 2, none⟩ = some (.int .i64 r.time) := by rw [Go.Joins.cell_of_block K4.r]; rfl
      have HQ := hide3 (@PutRow_any w4 r)
      go_wp2_with fail
      refine HQ.out.mono ?_
      rintro e w5 ⟨v5, rfl, o5, hb5⟩
      have K5 := K4.on hb5
      have ob5 := ob4.keep hb5
      clear HQ K4 y0 y1 y2 hb5 ob4
      rw [hrR] at o5 ⊢
      replace o5 : Own w5 _ v5 (rb r) := o5
      obtain ⟨a5, l5, c5, rfl, s5, _⟩ := o5.sl' (rb_byt2 hrR)
      rw [show er true = 0 from rfl]
      have HT := PRow_any s5
      rw [(rd_R hrR).1, (rd_R hrR).2] at HT
      rw [show r.v = .agg #[.string r.key, .string r.val, .int .i64 r.time] from rfl] at HT
      have HT2 := hide3 HT
      clear HT o5 s5
      go_wp2_with fail
      refine HT2.out.mono ?_
      rintro e w6 ⟨rfl, hb6⟩
      have K6 := (K5.on hb6).more (.cells #[.string r.key, .string r.val, .int .i64 r.time] 36)
      have ob6 := (ob5.keep hb6).alloc' (.cells #[.string r.key, .string r.val, .int .i64 r.time] 36)
      have s6 := heap_alloc_new w6 (.cells #[.string r.key, .string r.val, .int .i64 r.time] 36)
      have u0 : (w6.alloc (.cells #[.string r.key, .string r.val, .int .i64 r.time] 36)).cell? ⟨w6.heap.size, 0, none⟩ = some (.string r.key) := by rw [Go.Joins.cell_of_block s6]; rfl
      have u1 : (w6.alloc (.cells #[.string r.key, .string r.val, .int .i64 r.time] 36)).cell? ⟨w6.heap.size, 1, none⟩ = some (.string r.val) := by rw [Go.Joins.cell_of_block s6]; rfl
      have u2 : (w6.alloc (.cells #[.string r.key, .string r.val, .int .i64 r.time] 36)).cell? ⟨w6.heap.size, 2, none⟩ = some (.int .i64 r.time) := by rw [Go.Joins.cell_of_block s6]; rfl
      have y0 : (w6.alloc (.cells #[.string r.key, .string r.val, .int .i64 r.time] 36)).cell? ⟨w.heap.size + 1, 0, none⟩ = some (.string r.key) := by rw [Go.Joins.cell_of_block K6.r]; rfl
      have y1 : (w6.alloc (.cells #[.string r.key, .string r.val, .int .i64 r.time] 36)).cell? ⟨w.heap.size + 1, 1, none⟩ = some (.string r.val) := by rw [Go.Joins.cell_of_block K6.r]; rfl
      have y2 : (w6.alloc (.cells #[.string r.key, .string r.val, .int .i64 r.time] 36)).cell? ⟨w.heap.size + 1, 2, none⟩ = some (.int .i64 r.time) := by rw [Go.Joins.cell_of_block K6.r]; rfl
      clear HT2 K5 hb6 ob5
      cases hrM : rightM ⟨tm, lg, ps⟩ with
      | false =>
        have z0 : (w6.alloc (.cells #[.string r.key, .string r.val, .int .i64 r.time] 36)).cell? ⟨w.heap.size + 1 + 1, 0, none⟩ = some (.int .i64 tm) := by rw [Go.Joins.cell_of_block K6.m]; rfl
        have z1 : (w6.alloc (.cells #[.string r.key, .string r.val, .int .i64 r.time] 36)).cell? ⟨w.heap.size + 1 + 1, 1, none⟩ = some (.int .i64 lg) := by rw [Go.Joins.cell_of_block K6.m]; rfl
        have z2 : (w6.alloc (.cells #[.string r.key, .string r.val, .int .i64 r.time] 36)).cell? ⟨w.heap.size + 1 + 1, 2, none⟩ = some (.slice bo ln2 cp2) := by rw [Go.Joins.cell_of_block K6.m]; rfl
        have HQ := hide3 (PutManifest_any tm lg (GS.out.keep K6.bl))
        go_wp2_with fail
        refine HQ.out.mono ?_
        rintro e w7 ⟨v7, rfl, o7, hb7⟩
        have K7 := K6.on hb7
        have ob7 := ob6.keep hb7
        clear HQ K6 z0 z1 z2 hb7 ob6 s6 u0 u1 u2 y0 y1 y2
        rw [hrM] at o7 ⊢
        replace o7 : Own w7 _ v7 ([] : List Int) := o7
        obtain ⟨a7, l7, c7, rfl, s7, _⟩ := o7.sl' (Byt.nil)
        rw [show er false = 60 from rfl]
        have HT := PManifest_any s7
        obtain ⟨O3, eO3⟩ : ∃ O, O = oM [] := ⟨_, rfl⟩
        obtain ⟨V3, eV3⟩ : ∃ O, O = vM [] := ⟨_, rfl⟩
        rw [← eO3, ← eV3] at HT
        clear eO3 eV3
        have HT2 := hide3 HT
        clear HT o7 s7
        go_wp2_with fail
        refine HT2.out.mono ?_
        rintro e w8 ⟨v8, rfl, o8, hb8⟩
        obtain ⟨a8, l8, c8, rfl⟩ := row_form o8
        have hD8 := bel_alloc w8 (.cells #[.int .i64 O3.time, .int .i64 O3.log, .slice a8 l8 c8] 44)
        have K8 := (K7.on hb8).on hD8
        have ob8 := (ob7.keep hb8).alloc' (.cells #[.int .i64 O3.time, .int .i64 O3.log, .slice a8 l8 c8] 44)
        have K9 := K8
        have ob9 := ob8
        clear HT2 K7 K8 o8 hb8 ob7 ob8
        obtain ⟨P9, eP9⟩ : ∃ x, x = (w8.alloc (.cells #[.int .i64 O3.time, .int .i64 O3.log, .slice a8 l8 c8] 44)) := ⟨_, rfl⟩
        have hfin := back_tail (w := w) (W := (w8.alloc (.cells #[.int .i64 O3.time, .int .i64 O3.log, .slice a8 l8 c8] 44))) K9.bl ob9 hrC hl2
        obtain ⟨k, hkl, hkn, hkp, ac, hcut, hsl⟩ := hfin cut hc0 hc1
        have hlpos : (0 : Int) < (l2 : Int) := by have := cb_pos ⟨t, ws⟩; omega
        have hlne : ¬ (l2 : Int) = 0 := by omega
        have HL := PCommit_any hsl
        have hless := less_C hrC (cb_byt2 hrC) k (by omega)
        obtain ⟨O5, eO5⟩ : ∃ O, O = oC ((cb ⟨t, ws⟩).take k) := ⟨_, rfl⟩
        obtain ⟨V5, eV5⟩ : ∃ O, O = vC ((cb ⟨t, ws⟩).take k) := ⟨_, rfl⟩
        rw [← eV5] at hless
        rw [← eO5, ← eV5] at HL
        have HL2 := hide3 HL
        have OB := hide3 ob9
        have hzl : (cb ⟨t, ws⟩).length ≤ 140737488355328 - 10 := cb_long hrC
        have HLT := hide3 hzl
        have l2b : (l2 : Int) ≤ 9223372036854775807 := by omega
        have l2c : l2 ≤ 100000000 := cb_short hrC hl2
        clear HL eO5 eV5 hfin hsl eP9 P9 ob9 hzl
        by_cases hneg : cut < 0
        all_goals
          first
            | (have hk1 := hkn hneg; obtain ⟨m1, m2, m3, m4, m5, m6⟩ := hk1)
            | (have hk1 := hkp (by omega); obtain ⟨m1, m2⟩ := hk1)
          clear hkn hkp
          go_wp2_with fail
          refine HL2.out.mono ?_
          rintro e p1 ⟨q1, rfl, r1, hp1⟩
          obtain ⟨a9, l9, c9, rfl⟩ := row_form r1
          have J1 := below_more (below_on K9.bl hp1) (.cells #[.int .i64 O5.time, .slice a9 l9 c9] 26)
          have OB1 := (OB.out.keep hp1).alloc' (.cells #[.int .i64 O5.time, .slice a9 l9 c9] 26)
          have emp : Own ((p1.alloc (.cells #[.int .i64 O5.time, .slice a9 l9 c9] 26)).alloc (.cells #[] 5)) p1.heap.size (.slice (some ⟨p1.heap.size + 1, 0, none⟩) 0 0) [] := own_empty p1 _
          have OB2 := OB1.alloc' (.cells #[] 5)
          have J2 := below_more J1 (.cells #[] 5)
          have hzP : ((p1.alloc (.cells #[.int .i64 O5.time, .slice a9 l9 c9] 26)).alloc (.cells #[] 5)).heap.size = p1.heap.size + 2 := by simp
          have hpw : w.heap.size ≤ p1.heap.size := (below_on K9.bl hp1).size
          obtain ⟨a2', l2', c2', e2', s2', hlow'⟩ := OB2.sl' (cb_byt2 hrC)
          cases e2'
          have SB := hide3 s2'
          have C1 : Below (w8.alloc (.cells #[.int .i64 O3.time, .int .i64 O3.log, .slice a8 l8 c8] 44)).heap.size (w8.alloc (.cells #[.int .i64 O3.time, .int .i64 O3.log, .slice a8 l8 c8] 44)) ((p1.alloc (.cells #[.int .i64 O5.time, .slice a9 l9 c9] 26)).alloc (.cells #[] 5)) := below_more (below_more hp1 _) _
          have hsP := hp1.size
          clear HL2 r1 hp1 OB1 J1
          go_wp2_with (first
            | (at_builtin; refine Hid.out ?_)
            | fail)
          refine hide3 ?_
          refine wpList_append_sl rfl _ _ 29 rfl p1.heap.size i0 Try.underlying29 hi hz0 hz1 hz2 (.slice (some ⟨p1.heap.size + 1, 0, none⟩) 0 0) [] rfl emp a2 l2 c2 (cb ⟨t, ws⟩) rfl SB.out (by simp; omega) (by omega) ?_
          intro v11 p2 o11 hb11
          rw [List.nil_append] at o11
          have C2 : Below (w8.alloc (.cells #[.int .i64 O3.time, .int .i64 O3.log, .slice a8 l8 c8] 44)).heap.size (w8.alloc (.cells #[.int .i64 O3.time, .int .i64 O3.log, .slice a8 l8 c8] 44)) p2 := C1.trans (hb11.mono hsP)
          have J3 : Below w.heap.size w p2 := J2.trans (hb11.mono hpw)
          have hsp2 := hb11.size
          have O11 := hide3 o11
          clear emp OB2 J2 C1 SB s2' hlow' hb11 o11
          go_frame
          go_wp2_with (first
            | (at_builtin; refine Hid.out ?_)
            | fail)
          refine hide3 ?_
          refine wpList_append_own _ rfl _ _ 29 rfl p1.heap.size 5 i0 (.int .u8 0) 1 1 Try.underlying29 hi hz0 hz1 hz2 rfl (by decide) v11 _ _ rfl (World.ownsRow.alloc O11.out _) ⟨p2.heap.size, 0, none⟩ 1 1 [.int .u8 0] rfl rfl (cell_one_new _ _ _) (one_u8 _) (by unfold maxLen; omega) (by omega) (by simp; omega) ?_
          intro v12 p3 own12 hgrow12 _
          have g12 := Own.grown (World.ownsRow.alloc O11.out (.cells #[.int .u8 0] 5)) hgrow12 (by simp; omega)
          have o12 := Own.snoc own12
          have C3 : Below (w8.alloc (.cells #[.int .i64 O3.time, .int .i64 O3.log, .slice a8 l8 c8] 44)).heap.size (w8.alloc (.cells #[.int .i64 O3.time, .int .i64 O3.log, .slice a8 l8 c8] 44)) p3 := (below_more C2 (.cells #[.int .u8 0] 5)).trans (g12.mono hsP)
          have J4 : Below w.heap.size w p3 := (below_more J3 (.cells #[.int .u8 0] 5)).trans (g12.mono hpw)
          obtain ⟨a12, l12, c12, rfl, s12, _⟩ := o12.sl' ((cb_byt2 hrC).append (Byt.cons (by omega) Byt.nil))
          have HM := PCommit_any s12
          have hmore := more_C hrC
          obtain ⟨O6, eO6⟩ : ∃ O, O = oC (cb ⟨t, ws⟩ ++ [0]) := ⟨_, rfl⟩
          obtain ⟨V6, eV6⟩ : ∃ O, O = vC (cb ⟨t, ws⟩ ++ [0]) := ⟨_, rfl⟩
          rw [← eV6] at hmore
          rw [← eO6, ← eV6] at HM
          have HM2 := hide3 HM
          clear HM eO6 eV6 own12 hgrow12 o12 s12 O11 C2 J3 g12
          go_frame
          go_wp2_with fail
          refine HM2.out.mono ?_
          rintro e p4 ⟨q4, rfl, r4, hp4⟩
          obtain ⟨a13, l13, c13, rfl⟩ := row_form r4
          have C4 : Below (w8.alloc (.cells #[.int .i64 O3.time, .int .i64 O3.log, .slice a8 l8 c8] 44)).heap.size (w8.alloc (.cells #[.int .i64 O3.time, .int .i64 O3.log, .slice a8 l8 c8] 44)) (p4.alloc (.cells #[.int .i64 O6.time, .slice a13 l13 c13] 26)) := below_more (below_on C3 hp4) _
          have J5 : Below w.heap.size w (p4.alloc (.cells #[.int .i64 O6.time, .slice a13 l13 c13] 26)) := below_more (below_on J4 hp4) _
          obtain ⟨a14, l14, c14, e14, s14, _⟩ := (OB.out.keep C4).sl' (cb_byt2 hrC)
          cases e14
          have HR := PRow_any s14
          have hrow := row_C ⟨t, ws⟩
          obtain ⟨O7, eO7⟩ : ∃ O, O = oR (cb ⟨t, ws⟩) := ⟨_, rfl⟩
          obtain ⟨V7, eV7⟩ : ∃ O, O = vR (cb ⟨t, ws⟩) := ⟨_, rfl⟩
          rw [← eV7] at hrow
          rw [← eO7, ← eV7] at HR
          rw [show O7.v = .agg #[.string O7.key, .string O7.val, .int .i64 O7.time] from rfl] at HR
          have HR2 := hide3 HR
          clear HR eO7 eV7 HM2 r4 hp4 C3 J4 s14 C4
          go_wp2_with fail
          refine HR2.out.mono ?_
          rintro e p5 ⟨rfl, hp5⟩
          have J6 := below_more (below_on J5 hp5) (.cells #[.string O7.key, .string O7.val, .int .i64 O7.time] 36)
          have n1 : (V5.2 == 0) = false := by simpa using hless
          have n2 : (V5.2 != 0) = true := by simpa using hless
          clear HR2 J5 hp5
          go_wp2
          go_ret
          exact ⟨rfl, J6⟩
      | true =>
        have z0 : (w6.alloc (.cells #[.string r.key, .string r.val, .int .i64 r.time] 36)).cell? ⟨w.heap.size + 1 + 1, 0, none⟩ = some (.int .i64 tm) := by rw [Go.Joins.cell_of_block K6.m]; rfl
        have z1 : (w6.alloc (.cells #[.string r.key, .string r.val, .int .i64 r.time] 36)).cell? ⟨w.heap.size + 1 + 1, 1, none⟩ = some (.int .i64 lg) := by rw [Go.Joins.cell_of_block K6.m]; rfl
        have z2 : (w6.alloc (.cells #[.string r.key, .string r.val, .int .i64 r.time] 36)).cell? ⟨w.heap.size + 1 + 1, 2, none⟩ = some (.slice bo ln2 cp2) := by rw [Go.Joins.cell_of_block K6.m]; rfl
        have HQ := hide3 (PutManifest_any tm lg (GS.out.keep K6.bl))
        go_wp2_with fail
        refine HQ.out.mono ?_
        rintro e w7 ⟨v7, rfl, o7, hb7⟩
        have K7 := K6.on hb7
        have ob7 := ob6.keep hb7
        clear HQ K6 z0 z1 z2 hb7 ob6 s6 u0 u1 u2 y0 y1 y2
        rw [hrM] at o7 ⊢
        replace o7 : Own w7 _ v7 (mb ⟨tm, lg, ps⟩) := o7
        obtain ⟨a7, l7, c7, rfl, s7, _⟩ := o7.sl' (mb_byt2 hrM)
        rw [show er true = 0 from rfl]
        have HT := PManifest_any s7
        rw [(rd_M hrM).1, (rd_M hrM).2] at HT
        simp only [] at HT
        have HT2 := hide3 HT
        clear HT o7 s7
        go_wp2_with fail
        refine HT2.out.mono ?_
        rintro e w8 ⟨v8, rfl, o8, hb8⟩
        obtain ⟨a8, l8, c8, rfl⟩ := row_form o8
        have hD8 := bel_alloc w8 (.cells #[.int .i64 tm, .int .i64 lg, .slice a8 l8 c8] 44)
        have K8 := (K7.on hb8).on hD8
        have ob8 := (ob7.keep hb8).alloc' (.cells #[.int .i64 tm, .int .i64 lg, .slice a8 l8 c8] 44)
        have o8' := row_below o8 hD8
        have s8 := heap_alloc_new w8 (.cells #[.int .i64 tm, .int .i64 lg, .slice a8 l8 c8] 44)
        have u0 : (w8.alloc (.cells #[.int .i64 tm, .int .i64 lg, .slice a8 l8 c8] 44)).cell? ⟨w8.heap.size, 0, none⟩ = some (.int .i64 tm) := by rw [Go.Joins.cell_of_block s8]; rfl
        have u1 : (w8.alloc (.cells #[.int .i64 tm, .int .i64 lg, .slice a8 l8 c8] 44)).cell? ⟨w8.heap.size, 1, none⟩ = some (.int .i64 lg) := by rw [Go.Joins.cell_of_block s8]; rfl
        have u2 : (w8.alloc (.cells #[.int .i64 tm, .int .i64 lg, .slice a8 l8 c8] 44)).cell? ⟨w8.heap.size, 2, none⟩ = some (.slice a8 l8 c8) := by rw [Go.Joins.cell_of_block s8]; rfl
        have z0 : (w8.alloc (.cells #[.int .i64 tm, .int .i64 lg, .slice a8 l8 c8] 44)).cell? ⟨w.heap.size + 1 + 1, 0, none⟩ = some (.int .i64 tm) := by rw [Go.Joins.cell_of_block K8.m]; rfl
        have z1 : (w8.alloc (.cells #[.int .i64 tm, .int .i64 lg, .slice a8 l8 c8] 44)).cell? ⟨w.heap.size + 1 + 1, 1, none⟩ = some (.int .i64 lg) := by rw [Go.Joins.cell_of_block K8.m]; rfl
        have z2 : (w8.alloc (.cells #[.int .i64 tm, .int .i64 lg, .slice a8 l8 c8] 44)).cell? ⟨w.heap.size + 1 + 1, 2, none⟩ = some (.slice bo ln2 cp2) := by rw [Go.Joins.cell_of_block K8.m]; rfl
        have HSM := hide3 (sameManifest_any tm lg (GS.out.keep K8.bl) (row_seq o8' (fun _ => rfl)))
        clear HT2 K7 o8 hb8 s8 hD8 ob7
        go_wp2_with fail
        refine HSM.out.mono ?_
        rintro e w9 ⟨rfl, hb9⟩
        have K9 := K8.on hb9
        have ob9 := ob8.keep hb9
        clear HSM K8 o8' hb9 u0 u1 u2 z0 z1 z2 ob8
        obtain ⟨P9, eP9⟩ : ∃ x, x = w9 := ⟨_, rfl⟩
        have hfin := back_tail (w := w) (W := w9) K9.bl ob9 hrC hl2
        obtain ⟨k, hkl, hkn, hkp, ac, hcut, hsl⟩ := hfin cut hc0 hc1
        have hlpos : (0 : Int) < (l2 : Int) := by have := cb_pos ⟨t, ws⟩; omega
        have hlne : ¬ (l2 : Int) = 0 := by omega
        have HL := PCommit_any hsl
        have hless := less_C hrC (cb_byt2 hrC) k (by omega)
        obtain ⟨O5, eO5⟩ : ∃ O, O = oC ((cb ⟨t, ws⟩).take k) := ⟨_, rfl⟩
        obtain ⟨V5, eV5⟩ : ∃ O, O = vC ((cb ⟨t, ws⟩).take k) := ⟨_, rfl⟩
        rw [← eV5] at hless
        rw [← eO5, ← eV5] at HL
        have HL2 := hide3 HL
        have OB := hide3 ob9
        have hzl : (cb ⟨t, ws⟩).length ≤ 140737488355328 - 10 := cb_long hrC
        have HLT := hide3 hzl
        have l2b : (l2 : Int) ≤ 9223372036854775807 := by omega
        have l2c : l2 ≤ 100000000 := cb_short hrC hl2
        clear HL eO5 eV5 hfin hsl eP9 P9 ob9 hzl
        by_cases hneg : cut < 0
        all_goals
          first
            | (have hk1 := hkn hneg; obtain ⟨m1, m2, m3, m4, m5, m6⟩ := hk1)
            | (have hk1 := hkp (by omega); obtain ⟨m1, m2⟩ := hk1)
          clear hkn hkp
          go_wp2_with fail
          refine HL2.out.mono ?_
          rintro e p1 ⟨q1, rfl, r1, hp1⟩
          obtain ⟨a9, l9, c9, rfl⟩ := row_form r1
          have J1 := below_more (below_on K9.bl hp1) (.cells #[.int .i64 O5.time, .slice a9 l9 c9] 26)
          have OB1 := (OB.out.keep hp1).alloc' (.cells #[.int .i64 O5.time, .slice a9 l9 c9] 26)
          have emp : Own ((p1.alloc (.cells #[.int .i64 O5.time, .slice a9 l9 c9] 26)).alloc (.cells #[] 5)) p1.heap.size (.slice (some ⟨p1.heap.size + 1, 0, none⟩) 0 0) [] := own_empty p1 _
          have OB2 := OB1.alloc' (.cells #[] 5)
          have J2 := below_more J1 (.cells #[] 5)
          have hzP : ((p1.alloc (.cells #[.int .i64 O5.time, .slice a9 l9 c9] 26)).alloc (.cells #[] 5)).heap.size = p1.heap.size + 2 := by simp
          have hpw : w.heap.size ≤ p1.heap.size := (below_on K9.bl hp1).size
          obtain ⟨a2', l2', c2', e2', s2', hlow'⟩ := OB2.sl' (cb_byt2 hrC)
          cases e2'
          have SB := hide3 s2'
          have C1 : Below w9.heap.size w9 ((p1.alloc (.cells #[.int .i64 O5.time, .slice a9 l9 c9] 26)).alloc (.cells #[] 5)) := below_more (below_more hp1 _) _
          have hsP := hp1.size
          clear HL2 r1 hp1 OB1 J1
          go_wp2_with (first
            | (at_builtin; refine Hid.out ?_)
            | fail)
          refine hide3 ?_
          refine wpList_append_sl rfl _ _ 29 rfl p1.heap.size i0 Try.underlying29 hi hz0 hz1 hz2 (.slice (some ⟨p1.heap.size + 1, 0, none⟩) 0 0) [] rfl emp a2 l2 c2 (cb ⟨t, ws⟩) rfl SB.out (by simp; omega) (by omega) ?_
          intro v11 p2 o11 hb11
          rw [List.nil_append] at o11
          have C2 : Below w9.heap.size w9 p2 := C1.trans (hb11.mono hsP)
          have J3 : Below w.heap.size w p2 := J2.trans (hb11.mono hpw)
          have hsp2 := hb11.size
          have O11 := hide3 o11
          clear emp OB2 J2 C1 SB s2' hlow' hb11 o11
          go_frame
          go_wp2_with (first
            | (at_builtin; refine Hid.out ?_)
            | fail)
          refine hide3 ?_
          refine wpList_append_own _ rfl _ _ 29 rfl p1.heap.size 5 i0 (.int .u8 0) 1 1 Try.underlying29 hi hz0 hz1 hz2 rfl (by decide) v11 _ _ rfl (World.ownsRow.alloc O11.out _) ⟨p2.heap.size, 0, none⟩ 1 1 [.int .u8 0] rfl rfl (cell_one_new _ _ _) (one_u8 _) (by unfold maxLen; omega) (by omega) (by simp; omega) ?_
          intro v12 p3 own12 hgrow12 _
          have g12 := Own.grown (World.ownsRow.alloc O11.out (.cells #[.int .u8 0] 5)) hgrow12 (by simp; omega)
          have o12 := Own.snoc own12
          have C3 : Below w9.heap.size w9 p3 := (below_more C2 (.cells #[.int .u8 0] 5)).trans (g12.mono hsP)
          have J4 : Below w.heap.size w p3 := (below_more J3 (.cells #[.int .u8 0] 5)).trans (g12.mono hpw)
          obtain ⟨a12, l12, c12, rfl, s12, _⟩ := o12.sl' ((cb_byt2 hrC).append (Byt.cons (by omega) Byt.nil))
          have HM := PCommit_any s12
          have hmore := more_C hrC
          obtain ⟨O6, eO6⟩ : ∃ O, O = oC (cb ⟨t, ws⟩ ++ [0]) := ⟨_, rfl⟩
          obtain ⟨V6, eV6⟩ : ∃ O, O = vC (cb ⟨t, ws⟩ ++ [0]) := ⟨_, rfl⟩
          rw [← eV6] at hmore
          rw [← eO6, ← eV6] at HM
          have HM2 := hide3 HM
          clear HM eO6 eV6 own12 hgrow12 o12 s12 O11 C2 J3 g12
          go_frame
          go_wp2_with fail
          refine HM2.out.mono ?_
          rintro e p4 ⟨q4, rfl, r4, hp4⟩
          obtain ⟨a13, l13, c13, rfl⟩ := row_form r4
          have C4 : Below w9.heap.size w9 (p4.alloc (.cells #[.int .i64 O6.time, .slice a13 l13 c13] 26)) := below_more (below_on C3 hp4) _
          have J5 : Below w.heap.size w (p4.alloc (.cells #[.int .i64 O6.time, .slice a13 l13 c13] 26)) := below_more (below_on J4 hp4) _
          obtain ⟨a14, l14, c14, e14, s14, _⟩ := (OB.out.keep C4).sl' (cb_byt2 hrC)
          cases e14
          have HR := PRow_any s14
          have hrow := row_C ⟨t, ws⟩
          obtain ⟨O7, eO7⟩ : ∃ O, O = oR (cb ⟨t, ws⟩) := ⟨_, rfl⟩
          obtain ⟨V7, eV7⟩ : ∃ O, O = vR (cb ⟨t, ws⟩) := ⟨_, rfl⟩
          rw [← eV7] at hrow
          rw [← eO7, ← eV7] at HR
          rw [show O7.v = .agg #[.string O7.key, .string O7.val, .int .i64 O7.time] from rfl] at HR
          have HR2 := hide3 HR
          clear HR eO7 eV7 HM2 r4 hp4 C3 J4 s14 C4
          go_wp2_with fail
          refine HR2.out.mono ?_
          rintro e p5 ⟨rfl, hp5⟩
          have J6 := below_more (below_on J5 hp5) (.cells #[.string O7.key, .string O7.val, .int .i64 O7.time] 36)
          have n1 : (V5.2 == 0) = false := by simpa using hless
          have n2 : (V5.2 != 0) = true := by simpa using hless
          clear HR2 J5 hp5
          go_wp2
          go_ret
          exact ⟨rfl, J6⟩
end
end Go.Proofs.Yteihabdldiopeaa
