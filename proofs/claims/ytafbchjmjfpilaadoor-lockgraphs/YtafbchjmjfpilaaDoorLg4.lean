/-
  Lg4: Each cycle that is told is one, and is none as soon as one of it waits no more (LockBreaks).
-/
import Derived.Test.YtafbchjmjfpilaaDoorLg3
import Derived.BigQuiet
set_option linter.unusedVariables false
set_option linter.unusedSimpArgs false
namespace Go.Proofs.YtafbchjmjfpilaaDoor
open Go.RowKit Go.Shelf
attribute [local go_sem] Oper.semAt_some

section
set_option maxHeartbeats 8000000
set_option maxRecDepth 100000
variable {w : World} {ao : Option Addr} {len cap : Nat} {xs : List Wi}

theorem gE_zero (i k : Nat) : gE (List.replicate 16 0) i k = false := by
  unfold gE
  have : (List.replicate 16 0).getD i 0 = 0 := by
    simp only [List.getD, List.getElem?_replicate]
    split <;> rfl
  rw [this, Nat.zero_testBit]

def zG : Array Value := (List.replicate 256 (Value.bool false)).toArray
theorem zero_graph (u : World) : (zeroValue 30).run Tryd.prog u = .ok (.agg zG) u := by kernel_rfl
theorem gr_zero (w : World) : Gr (w.alloc (.cells zG 30)) w.heap.size (fun _ => false) := by
  have := World.rowIs_alloc w zG 30 (fun _ => .bool false) (fun i hi => by
    unfold zG at hi ⊢
    rw [List.size_toArray, List.length_replicate] at hi
    rw [List.getElem?_toArray, List.getElem?_replicate, if_pos hi])
  have e : zG.size = 256 := by unfold zG; rw [List.size_toArray, List.length_replicate]
  rw [e] at this
  exact this
theorem gb_new {w w1 : World} (h : Below w.heap.size w w1) : Gb w ((w1.alloc (.cells (u16s (List.replicate 16 0)) 49)).alloc (.cells zG 30)) w1.heap.size (w1.heap.size + 1) (List.replicate 16 0) (fun _ => false) := by
  refine ⟨⟨by simp, fun i => ?_, ?_⟩, ?_, h.size, Nat.le_succ_of_le h.size, by omega, (h.alloc h.size _).alloc (by simp; have := h.size; omega) _⟩
  · simp only [List.getD, List.getElem?_replicate]
    split <;> decide
  · rw [Below.heap_alloc _ _ _ (by simp)]
    exact heap_alloc_new w1 _
  · have := gr_zero (w1.alloc (.cells (u16s (List.replicate 16 0)) 49))
    rw [World.size_alloc] at this
    exact this
theorem jg_new : Jg (List.replicate 16 0) (fun _ => false) := ⟨fun i k _ _ => (gE_zero i k).symm, fun i _ => gE_zero i i⟩

theorem cyc_le {E : Nat → Nat → Bool} {t : Nat} {p : List Nat} (h : Lk.cyc E t = some p) (ht : t < 16) : p.length ≤ 16 := by
  rcases Lk.cyc_cases E ht with ⟨n, hn, hl, he⟩ | ⟨_, he⟩
  · rw [h] at he
    rw [Option.some.inj he]
    simp [Lk.bst_len]
    omega
  · rw [h] at he; cases he
/-- One waits no more. -/
def off (v : Nat) : Wi := ⟨(v : Int), none, 0, 0, []⟩
theorem off_ok (v : Nat) (w : World) : (off v).ok w := ⟨rfl, Nat.le_refl _, Nat.zero_le _, fun h => absurd h (Nat.lt_irrefl 0)⟩
theorem off_e {v : Nat} (h : v < 16) : wtE (off v) = 0 := by
  unfold wtE okw off
  rw [show isW ((v : Int)) = true from isW_nat h]
  rfl
theorem off_gE {v : Nat} {Wt : List Nat} (h : v < 16) (hl : Wt.length = 16) (i k : Nat) : gE (wtN Wt (off v)) i k = if i = v then false else gE Wt i k := by
  have e : wtN Wt (off v) = Wt.set v (wo (cm []) (2 ^ v)) := by
    unfold wtN okw off
    rw [show isW ((v : Int)) = true from isW_nat h]
    rfl
  rw [e]
  unfold gE
  by_cases q : i = v
  · subst q
    rw [if_pos rfl]
    have : (Wt.set i (wo (cm []) (2 ^ i))).getD i 0 = wo (cm []) (2 ^ i) := by simp [List.getD, List.getElem?_set, hl, h]
    rw [this, wo_bit (cm_lt _) (pow16_lt h), cm_bit]
    rfl
  · rw [if_neg q]
    have e : ¬ v = i := fun r => q r.symm
    simp [List.getD, List.getElem?_set, e]
theorem rem_at {L : Nat} (hL : 0 < L) (hL2 : L ≤ 16) (g : Int) : ∃ (g1 : Int) (j : Nat), g.tmod (L : Int) = g1 ∧ -16 < g1 ∧ g1 < 16 ∧ (g1 + (L : Int)).tmod (L : Int) = (j : Int) ∧ j < L := by
  have h1 := Int.tmod_lt_of_pos g (by omega : (0 : Int) < (L : Int))
  have h2 := Int.lt_tmod_of_pos g (by omega : (0 : Int) < (L : Int))
  refine ⟨g.tmod L, ((g.tmod L + L).tmod L).toNat, rfl, by omega, by omega, ?_, ?_⟩
  · rw [Int.tmod_eq_emod_of_nonneg (by omega)]
    have := Int.emod_nonneg (g.tmod L + L) (by omega : (L : Int) ≠ 0)
    omega
  · rw [Int.tmod_eq_emod_of_nonneg (by omega)]
    have h3 := Int.emod_nonneg (g.tmod L + L) (by omega : (L : Int) ≠ 0)
    have h4 := Int.emod_lt_of_pos (g.tmod L + L) (by omega : (0 : Int) < (L : Int))
    omega
theorem nxt_at {i L : Nat} (hL : 0 < L) : ((i : Int) + 1).tmod (L : Int) = (((i + 1) % L : Nat) : Int) := by
  rw [Int.tmod_eq_emod_of_nonneg (by omega)]
  simp

theorem lockBreaks_walk (hT : Tab w) (h : Waits w ao len cap xs) (me gone : Int) (hg : -9223372036854775808 ≤ gone ∧ gone ≤ 9223372036854775807) :
    Calls Tryd.prog 3 #[.slice ao len cap, .int .i64 me, .int .i64 gone] w fun e w' => e = .returned (.bool true) ∧ Below w.heap.size w w' := by
  have HS := hide2 (shown_any w)
  have HN := hide2 (fun w => new_any w)
  have HT := hide2 hT
  have HX := hide2 h
  have hle := h.1.2.1
  have hmx := h.1.2.2.1
  unfold maxLen at hmx
  have hxl := h.1.1
  clear h hT
  go_enter Tryd.func3, Tryd.ntmps3
  go_wp2_with fail
  refine HS.out.mono ?_
  rintro e w1 ⟨rfl, hw1⟩
  have B1 := hide2 hw1
  clear hw1 HS
  go_wp2_with fail
  refine (HN.out _).mono ?_
  rintro e w2 ⟨rfl, hw2⟩
  have hzv := zero_graph
  have hzs : zG.size = 256 := by unfold zG; simp
  have GB0 := hide2 (gb_new B1.out)
  rw [← hw2] at GB0
  have hw2s : w2.heap.size = w1.heap.size + 1 := by rw [hw2]; simp
  clear hw2 HN
  generalize zG = Z at hzv hzs GB0
  go_wp2_with fail
  clear hzv hzs
  generalize w1.heap.size + 1 = b at *
  generalize w1.heap.size = d at *
  go_loopw [10] (fun i wr => ∃ k : Nat, k ≤ len ∧ i = .int .i64 (k : Int) ∧ Hid (∃ Wt F, Jg Wt F ∧ Gb w wr d b Wt F)) (fun i _ => len - (intOf i).toNat)
  case atStart => exact ⟨0, Nat.zero_le _, rfl, hide2 ⟨_, _, jg_new, GB0.out⟩⟩
  case round =>
    obtain ⟨k, hk, rfl, HG⟩ := hrel
    obtain ⟨Wt, F, hJ, hG⟩ := HG.out
    clear HG GB0
    have HJ := hide2 hJ
    have HG := hide2 hG
    clear hJ hG
    by_cases hlt : k < len
    · obtain ⟨x, hx⟩ := some_at hxl hlt
      have hok := HX.out.2 x (List.mem_of_getElem? hx)
      obtain ⟨g, off, rfl, hgl, hc⟩ := HX.out.1.2.2.2 (by omega)
      have c0 := (HG.out.bl.cell (p := ⟨g, off + k * 2, none⟩) hgl).trans (hc k x hx 0 _ rfl)
      have c1 := (HG.out.bl.cell (p := ⟨g, off + k * 2 + 1, none⟩) hgl).trans (hc k x hx 1 _ rfl)
      have NJ := hide2 (HJ.out.wait HG.out.gm.len x)
      have HP : Hid (∀ u, Gb w u d b Wt F → Calls Tryd.prog 7 #[.pointer (some ⟨d, 0, none⟩), .int .i64 x.w, .slice x.ao x.len x.cap] u fun e w' => e = .returned (.int .i64 (wtE x)) ∧ Gb w w' d b (wtN Wt x) F) := hide2 (fun u hu => gb_wait hu HT.out hok)
      have HD : Hid (∀ u, Gb w u d b (wtN Wt x) F → Calls Tryd.prog 8 #[.pointer (some ⟨b, 0, none⟩), .int .i64 x.w, .slice x.ao x.len x.cap] u fun e w' => e = .returned (.int .i64 (wtE x)) ∧ Gb w w' d b (wtN Wt x) (wtF F x)) := hide2 (fun u hu => gb_rwait hu hok)
      have HC : Hid (∀ u, Gb w u d b (wtN Wt x) F → u.cell? ⟨g, off + k * 2, none⟩ = some (.int .i64 x.w) ∧ u.cell? ⟨g, off + k * 2 + 1, none⟩ = some (.slice x.ao x.len x.cap)) := hide2 (fun u hu => ⟨(hu.bl.cell (p := ⟨g, off + k * 2, none⟩) hgl).trans (hc k x hx 0 _ rfl), (hu.bl.cell (p := ⟨g, off + k * 2 + 1, none⟩) hgl).trans (hc k x hx 1 _ rfl)⟩)
      have d2 : decide ((k : Int) < (len : Int)) = true := by simp; omega
      clear hc hx hok HX
      generalize wtF F x = F' at *
      generalize wtN Wt x = Wt' at *
      generalize wtE x = er at *
      obtain ⟨xw, xa, xl, xc, xo⟩ := x
      dsimp only at c0 c1 HP HD HC
      clear hxl
      go_wp2_with fail
      go_region_with (go_at_call 7; refine (HP.out _ (by first | exact HG.out | exact HG.out.drewN _)).mono ?_; rintro e w' ⟨rfl, hw'⟩)
      all_goals
        have HG1 := hide2 hw'
        obtain ⟨c0, c1⟩ := HC.out _ hw'
        clear hw'
        go_wp2_with fail
        clear HP HC HG
        go_region_with (go_at_call 8; refine (HD.out _ (by first | exact HG1.out | exact HG1.out.drewN _)).mono ?_; rintro e w2 ⟨rfl, hw2⟩)
        all_goals
          have HG2 := hide2 hw2
          clear hw2
          go_wp2_with fail
          go_roundw
          case rel => exact ⟨k + 1, by omega, by go_num, hide2 ⟨_, _, NJ.out, by first | exact HG2.out | exact HG2.out.drewN _⟩⟩
          case measure => simp [intOf]; omega
    · have d2 : decide ((k : Int) < (len : Int)) = false := by simp; omega
      clear HX hxl hw2s
      obtain ⟨U, hU⟩ : ∃ U, U = wr := ⟨_, rfl⟩
      subst hU
      have HTU := hide2 (HT.out.below HG.out.bl HT.out.1)
      cases hme : isW me with
      | false =>
        have HC := hide2 (fun g u => cycle_out hme g u)
        clear hme
        go_wp2_with fail
        refine (HC.out _ _).mono ?_
        rintro e w3 ⟨rfl, hw3⟩
        have B3 := hide2 (HG.out.below hw3).bl
        clear hw3
        go_wp2
        go_ret
        exact ⟨rfl, B3.out⟩
      | true =>
        obtain ⟨t, rfl⟩ : ∃ n : Nat, me = (n : Int) := ⟨me.toNat, (isW_toNat hme).1.symm⟩
        have ht : t < 16 := by have := isW_iff.1 hme; omega
        clear hme
        have HC := hide2 (cycle_ok HG.out.gm HTU.out ht)
        go_wp2_with fail
        refine HC.out.mono ?_
        rintro e w3 ⟨hcyc, hw3⟩
        clear HC
        have HG3 := hide2 (HG.out.below hw3)
        have HT3 := hide2 (HTU.out.keep hw3)
        rcases hcyc with ⟨hno, rfl⟩ | ⟨p, v, hp, rfl, hr⟩
        · clear hw3 HG HTU hno
          go_wp2
          go_ret
          exact ⟨rfl, HG3.out.bl⟩
        · have hF := Lk.cyf_of hp ht (HJ.out.self t ht)
          obtain ⟨av, cv, rfl, hcv⟩ := hr.form
          have hp2 := hF.two
          have hp16 := hF.le
          obtain ⟨gp, rfl, hgp, hgpl, hpc⟩ := hr.cell (i := 0) (by omega)
          have HP := hide2 hp
          have HPC : Hid (∀ i, i < p.length → w3.cell? ⟨gp, i, none⟩ = some (.int .i64 (p.getD i 0 : Nat))) := hide2 (fun i hi => hpc i hi)
          have HRC : Hid (∀ i, i < p.length → w3.cell? ⟨b, p.getD i 0 * 16 + p.getD ((i + 1) % p.length) 0, none⟩ = some (.bool true)) := hide2 (fun i hi => by
            have h1 := hF.lt i hi
            have h2 := hF.lt ((i + 1) % p.length) (Nat.mod_lt _ (by omega))
            have h3 := World.rowIs.cell HG3.out.gr (i := p.getD i 0 * 16 + p.getD ((i + 1) % p.length) 0) (by omega)
            rw [HJ.out.jn _ _ h1 h2, hF.nx i hi] at h3
            exact h3)
          have HLT := hide2 hF.lt
          have HND := hide2 hF.nd
          have hhd := hF.hd
          have c00 := HPC.out 0 (by omega)
          rw [hhd] at c00
          have HGL := hide2 HG3.out.gm.len
          clear hp hF hpc hr hw3 HG HTU hhd
          obtain ⟨f, hf⟩ : ∃ f : Nat → Nat, f = fun i => p.getD i 0 := ⟨_, rfl⟩
          have HPC2 : Hid (∀ i, i < p.length → w3.cell? ⟨gp, i, none⟩ = some (.int .i64 (f i : Nat))) := by rw [hf]; exact HPC
          have HRC2 : Hid (∀ i, i < p.length → w3.cell? ⟨b, f i * 16 + f ((i + 1) % p.length), none⟩ = some (.bool true)) := by rw [hf]; exact HRC
          have HLT2 : Hid (∀ i, i < p.length → f i < 16) := by rw [hf]; exact HLT
          have HND2 : Hid (∀ i k, k < i → i < p.length → f k ≠ f i) := by rw [hf]; exact HND
          clear HPC HRC HLT HND hf
          obtain ⟨L, hL⟩ : ∃ L, L = p.length := ⟨_, rfl⟩
          have HL := hide2 hL
          rw [← hL] at HPC2 HRC2 HLT2 HND2 hp2 hp16 hcv ⊢
          clear hL
          have hLz : (L : Int) ≠ 0 := by omega
          have hL2 : ¬ (L : Int) < 2 := by omega
          have hL16 : ¬ (16 : Int) < (L : Int) := by omega
          have c01 : w3.cell? ⟨gp, 0, none⟩ = some (.int .i64 (t : Nat)) := c00
          clear c00
          go_wp2_with fail
          go_loopw [15] (fun i wr => ∃ k : Nat, k ≤ L ∧ i = .int .i64 (k : Int) ∧ Hid (∃ q, wr = w3.drewN q)) (fun i _ => L - (intOf i).toNat)
          case atStart => exact ⟨0, Nat.zero_le _, rfl, hide2 ⟨0, rfl⟩⟩
          case round =>
            obtain ⟨i, hi, rfl, HQ⟩ := hrel
            obtain ⟨q, hq⟩ := HQ.out
            subst hq
            clear HQ
            by_cases hil : i < L
            · have hj : (i + 1) % L < L := Nat.mod_lt _ (by omega)
              have hrem := nxt_at (i := i) (by omega : 0 < L)
              have c1 := HPC2.out i hil
              have c2 := HPC2.out _ hj
              have c3 := HRC2.out i hil
              have l1 := HLT2.out i hil
              have l2 := HLT2.out _ hj
              have HNI : Hid (∀ k, k < i → f k ≠ f i) := hide2 (fun k hk => HND2.out i k hk hil)
              have HCI := hide2 c1
              generalize (i + 1) % L = j at *
              generalize f j = fj at *
              generalize hfi : f i = fi at *
              have dl : decide ((i : Int) < (L : Int)) = true := by simp; omega
              have d1 : decide ((fi : Int) < 0) = false := decide_eq_false (by omega)
              have d2' : decide ((16 : Int) ≤ (fi : Int)) = false := by simp; omega
              have d3 : decide ((fj : Int) < 0) = false := decide_eq_false (by omega)
              have d4 : decide ((16 : Int) ≤ (fj : Int)) = false := by simp; omega
              have e1 : (fi : Int) < 16 := by omega
              have e2 : (fj : Int) < 16 := by omega
              clear hfi
              go_wp2_with fail
              go_quiet (fail)
              go_wp2_with fail
              go_loopw [17] (fun z wr => ∃ y : Nat, y ≤ i ∧ z = .int .i64 (y : Int) ∧ Hid (∃ q, wr = w3.drewN q)) (fun z _ => i - (intOf z).toNat)
              case atStart => exact ⟨0, Nat.zero_le _, rfl, hide2 ⟨_, by first | rfl | exact World.drewN_drewN _ _ _⟩⟩
              case round =>
                obtain ⟨y, hy, rfl, HQ⟩ := hrel
                obtain ⟨q', hq⟩ := HQ.out
                subst hq
                clear HQ
                by_cases hyi : y < i
                · have c4 := HPC2.out y (by omega)
                  have hne := HNI.out y hyi
                  generalize f y = fy at *
                  have d5 : decide ((y : Int) < (i : Int)) = true := decide_eq_true (by omega)
                  have d6 : decide ((fy : Int) = (fi : Int)) = false := decide_eq_false (by omega)
                  have d7 : (y : Int) < (L : Int) := by omega
                  have d8 : (i : Int) < (L : Int) := by omega
                  clear HPC2 HRC2 HLT2 HND2 HNI
                  go_wp2_with fail
                  go_quiet (fail)
                  go_wp2_with fail
                  go_roundw
                  case rel => exact ⟨y + 1, by omega, by go_num, hide2 ⟨_, by first | rfl | exact World.drewN_drewN _ _ _⟩⟩
                  case measure => simp [intOf]; omega
                · have d5 : decide ((y : Int) < (i : Int)) = false := decide_eq_false (by omega)
                  go_wp2_with fail
                  go_roundw
                  case rel => exact ⟨i + 1, by omega, by go_num, hide2 ⟨_, by first | rfl | exact World.drewN_drewN _ _ _⟩⟩
                  case measure => simp [intOf]; omega
            · have dl : decide ((i : Int) < (L : Int)) = false := decide_eq_false (by omega)
              obtain ⟨g1, jv, hr1, hg1, hg2, hr2, hjv⟩ := rem_at (by omega : 0 < L) hp16 gone
              have c5 := HPC2.out jv hjv
              have lv := HLT2.out jv hjv
              have HPV := hide2 (fun p' (h' : Lk.cyc (gE (wtN Wt (off (f jv)))) t = some p') => Lk.cyf_gone HP.out h' (fun i k hik => by
                rw [off_gE lv HGL.out] at hik
                by_cases q : i = f jv
                · rw [if_pos q] at hik; cases hik
                · rw [if_neg q] at hik; exact hik) (fun k => by rw [off_gE lv HGL.out, if_pos rfl]) ht)
              have HW3 := hide2 (gb_wait (HG3.out.drewN q) HT.out (off_ok (f jv) w))
              rw [off_e lv] at HW3
              clear HPC2 HRC2 HLT2 HND2
              rw [← HL.out] at HPV
              clear HP
              generalize wtN Wt (off (f jv)) = Wt4 at *
              unfold off at HW3
              dsimp only at HW3
              generalize f jv = vv at *
              clear hg
              go_wp2_with fail
              refine HW3.out.mono ?_
              rintro e w4 ⟨rfl, hw4⟩
              have HG4 := hide2 hw4
              have HC4 := hide2 (cycle_ok hw4.gm (HT.out.below hw4.bl HT.out.1) ht)
              clear hw4 HW3
              go_wp2_with fail
              refine HC4.out.mono ?_
              rintro e w5 ⟨hcyc, hw5⟩
              have B5 := hide2 (HG4.out.below hw5).bl
              clear HC4 hw5 HG4 HG3
              rcases hcyc with ⟨hno, rfl⟩ | ⟨p', v', hp', rfl, hr'⟩
              · clear hno HPV
                go_wp2_with fail
                go_loopw [22] (fun z wr => z = .int .i64 0 ∧ Hid (wr = w5)) (fun z _ => 0)
                case atStart => exact ⟨rfl, hide2 rfl⟩
                case round =>
                  obtain ⟨rfl, HQ⟩ := hrel
                  have hq := HQ.out
                  subst hq
                  go_wp2
                  go_ret
                  exact ⟨rfl, B5.out⟩
              · obtain ⟨hlen, hnv⟩ := HPV.out p' hp'
                have hle16 := cyc_le hp' ht
                obtain ⟨av', cv', rfl, hcv'⟩ := hr'.form
                obtain ⟨gp', rfl, hgp', hgpl', hpc'⟩ := hr'.cell (i := 0) (by omega)
                obtain ⟨f', hf'⟩ : ∃ f : Nat → Nat, f = fun i => p'.getD i 0 := ⟨_, rfl⟩
                have HPC' : Hid (∀ i, i < p'.length → w5.cell? ⟨gp', i, none⟩ = some (.int .i64 (f' i : Nat))) := by rw [hf']; exact hide2 hpc'
                have HNV' : Hid (∀ i, i < p'.length → f' i ≠ vv) := by rw [hf']; exact hide2 hnv
                clear hp' hr' hpc' hnv hf' HPV
                generalize p'.length = L' at *
                have dd : decide ((L : Int) ≤ (L' : Int)) = true := decide_eq_true (by omega)
                go_wp2_with fail
                go_loopw [22] (fun z wr => ∃ y : Nat, y ≤ L' ∧ z = .int .i64 (y : Int) ∧ Hid (wr = w5)) (fun z _ => L' - (intOf z).toNat)
                case atStart => exact ⟨0, Nat.zero_le _, rfl, hide2 rfl⟩
                case round =>
                  obtain ⟨y, hy, rfl, HQ⟩ := hrel
                  have hq := HQ.out
                  subst hq
                  clear HQ
                  by_cases hyi : y < L'
                  · have c4 := HPC'.out y hyi
                    have hne := HNV'.out y hyi
                    generalize f' y = fy at *
                    have d5 : decide ((y : Int) < (L' : Int)) = true := decide_eq_true (by omega)
                    have d6 : decide ((fy : Int) = (vv : Int)) = false := decide_eq_false (by omega)
                    go_wp2_with fail
                    go_roundw
                    case rel => exact ⟨y + 1, by omega, by go_num, hide2 (by first | rfl | trivial)⟩
                    case measure => simp [intOf]; omega
                  · have d5 : decide ((y : Int) < (L' : Int)) = false := decide_eq_false (by omega)
                    go_wp2
                    go_ret
                    exact ⟨rfl, B5.out⟩
end
end Go.Proofs.YtafbchjmjfpilaaDoor
