/-
  SkipTogether. (Printed by gen_sn3.py.)
-/
import Derived.Test.YtopihgdbfhiejaaDoorSo1
import Derived.Test.YtopihgdbfhiejaaDoorSo2
import Derived.Test.YtopihgdbfhiejaaDoorSo3
import Derived.Test.YtopihgdbfhiejaaDoorSo4
import Derived.BigQuiet
import Derived.Deep.DeepCutAuto
set_option linter.unusedVariables false
set_option linter.unusedSimpArgs false
namespace Go.Proofs.YtopihgdbfhiejaaDoor
open Go.RowKit Go.Maps Go.Sort

section
variable {w w0 : World} {lb d : Nat} {K : Nat → Prop} {s : Sl} {l : List Un} {vo : Option Addr} {vc : Nat}
theorem fits_any (E : Ev s l) (h : Hs w w0 lb d 10000000 K s l (.slice vo l.length vc) (.slice none 0 0) []) {i : Nat} {u : Un} (hu : l[i]? = some u) :
    Calls Tryd.prog 25 #[.slice vo l.length vc, .int .i64 (i : Int)] w0 fun e w' => e = .returned (.bool true) ∧ Below w0.heap.size w0 w' := by
  have hp := pk_lt u.x.kind (n := 3) (by decide)
  cases hbad : bad u.x with
  | true => exact fits_bad E h hu hbad
  | false =>
    rcases (show pk u.x.kind 3 = 0 ∨ pk u.x.kind 3 = 1 ∨ pk u.x.kind 3 = 2 by omega) with q | q | q
    · by_cases hw : u.o.tw = 0
      · exact fits_ins0 E h hu hbad q hw
      · exact fits_ins1 E h hu hbad q hw
    · cases hh : u.o.had with
      | true => exact fits_1t E h hu hbad q hh
      | false => exact fits_1f E h hu hbad q hh
    · cases hh : u.o.had with
      | true => exact fits_2t E h hu hbad q hh
      | false => exact fits_2f E h hu hbad q hh
end
section
variable {w : World}
set_option maxRecDepth 100000 in
set_option maxHeartbeats 8000000 in
theorem skipTogether_walk (ao : Option Addr) (len cap : Nat) (xs : List AskR) (po : Option Addr) (plen pcap : Nat) (ps : List Int) (hT : Tab w) (hs : Seq 5 AskR.cells w ao len cap xs) (hok : ∀ x ∈ xs, x.ok) (hp : Seq 1 ih w po plen pcap ps) (hpk : ∀ p ∈ ps, I64 p) :
    Calls Tryd.prog 4 #[.slice ao len cap, .slice po plen pcap] w fun e w' => e = .returned (.bool true) ∧ Below w.heap.size w w' := by
  have hcap := hs.2.1
  have hmax := hs.2.2.1
  have hpcap := hp.2.1
  have hpmax := hp.2.2.1
  unfold maxLen at hmax hpmax
  have HS := hide2 (shown_any hT)
  have HT0 := hide2 hT
  have hw0 := hT.1
  obtain ⟨m1, hm1⟩ : ∃ m, m = min len 40 := ⟨_, rfl⟩
  obtain ⟨m2, hm2⟩ : ∃ m, m = min plen 10000 := ⟨_, rfl⟩
  have e1 : min (len : Int) 40 = (m1 : Int) := by omega
  have e2 : min (plen : Int) 10000 = (m2 : Int) := by omega
  obtain ⟨ao1, hsl1, hsq1⟩ := seq_cut (P := Tryd.prog) hs 22 33 Tryd.underlying22 size_ask m1 (by omega)
  obtain ⟨po1, hsl2, hsq2⟩ := seq_cut (P := Tryd.prog) hp 47 3 Tryd.underlying47 size_int m2 (by omega)
  have HSQ1 := hide2 hsq1
  have HSQ2 := hide2 hsq2
  have HOK : Hid (∀ x ∈ xs.take m1, x.ok) := hide2 (fun x hx => hok x (List.mem_of_mem_take hx))
  have HPK0 : Hid (∀ p ∈ ps.take m2, I64 p) := hide2 (fun x hx => hpk x (List.mem_of_mem_take hx))
  have hm1b : m1 ≤ 40 := by omega
  have hm2b : m2 ≤ 10000 := by omega
  clear hT hs hok hp hpk hm1 hm2 hsq1 hsq2
  go_enter Tryd.func4, Tryd.ntmps4
  go_wp2_with fail
  refine HS.out.mono ?_
  rintro e w0 ⟨rfl, hb0⟩
  have HM := hide2 (made_any (HT0.out.below hb0 hw0))
  have HB0 := hide2 hb0
  have hs0' := hb0.size
  clear HS hb0
  go_wp2_with fail
  refine HM.out.mono ?_
  rintro e w1 ⟨lb, K, rfl, h1, hK, hb1⟩
  obtain ⟨d, hd⟩ : ∃ d, d = w0.heap.size + 1 := ⟨_, rfl⟩
  rw [← hd] at h1 ⊢
  have hbb : Below w.heap.size w w1.drew := HB0.out.trans ⟨hb1.os, hb1.tape, hb1.output, hb1.size, fun j hj => hb1.block j (by omega)⟩
  have HTG := hide2 (together_any (w := w) (w0 := w1.drew) (h1.below ⟨rfl, rfl, rfl, Nat.le_refl _, fun _ _ => rfl⟩) (fun j hj => by have := hK j hj; omega) hbb hw0 HSQ1.out HOK.out hm1b HSQ2.out HPK0.out hm2b)
  clear HM h1 hK hb1 hbb hd
  go_wp2_with fail
  refine wp_region_noPanic ?_
  refine wp_region_held_drew (S := (fun _ : World => True)) (by kernel_rfl) (trivial) (fun hHeld => ?_)
  refine wpAnyH_take (i := 0) (oi := { dst := some 24, op := _, type := _, pos := _, after := _, guard := _ }) (v := ?_) rfl (by kernel_rfl) (by kernel_rfl) (by kernel_rfl) (fun _ _ _ h => h) (Or.inl ⟨by rfl, ?_⟩) (by assumption) ?_
  rotate_left 1
  · intro u hSw; obtain s1 := hSw; go_simp; try with_reducible rfl
  try simp only [Act.put, List.setIfInBounds_toArray, List.set_cons_zero, List.set_cons_succ]
  refine wpAnyH_take (i := 1) (oi := { dst := some 25, op := _, type := _, pos := _, after := _, guard := _ }) (v := ?_) rfl (by kernel_rfl) (by kernel_rfl) (by kernel_rfl) (fun _ _ _ h => h) (Or.inl ⟨by rfl, ?_⟩) (by assumption) ?_
  rotate_left 1
  · intro u hSw; obtain s1 := hSw; go_simp; try with_reducible rfl
  try simp only [Act.put, List.setIfInBounds_toArray, List.set_cons_zero, List.set_cons_succ]
  refine wpAnyH_take (i := 2) (oi := { dst := some 26, op := _, type := _, pos := _, after := _, guard := _ }) (v := ?_) rfl (by kernel_rfl) (by kernel_rfl) (by kernel_rfl) (fun _ _ _ h => h) (Or.inl ⟨by rfl, ?_⟩) (by assumption) ?_
  rotate_left 1
  · intro u hSw; obtain s1 := hSw; go_simp; try with_reducible rfl
  try simp only [Act.put, List.setIfInBounds_toArray, List.set_cons_zero, List.set_cons_succ]
  refine wpAnyH_take (i := 3) (oi := { dst := some 27, op := _, type := _, pos := _, after := _, guard := _ }) (v := ?_) rfl (by kernel_rfl) (by kernel_rfl) (by kernel_rfl) (fun _ _ _ h => h) (Or.inl ⟨by rfl, ?_⟩) (by assumption) ?_
  rotate_left 1
  · intro u hSw; obtain s1 := hSw; go_simp; try with_reducible rfl
  try simp only [Act.put, List.setIfInBounds_toArray, List.set_cons_zero, List.set_cons_succ]
  refine wpAnyH_take (i := 4) (oi := { dst := some 28, op := _, type := _, pos := _, after := _, guard := _ }) (v := ?_) rfl (by kernel_rfl) (by kernel_rfl) (by kernel_rfl) (fun _ _ _ h => h) (Or.inl ⟨by rfl, ?_⟩) (by assumption) ?_
  rotate_left 1
  · intro u hSw; obtain s1 := hSw; go_simp; try with_reducible rfl
  try simp only [Act.put, List.setIfInBounds_toArray, List.set_cons_zero, List.set_cons_succ]
  refine wpAnyH_take (i := 5) (oi := { dst := some 29, op := _, type := _, pos := _, after := _, guard := _ }) (v := ?_) rfl (by kernel_rfl) (by kernel_rfl) (by kernel_rfl) (fun _ _ _ h => h) (Or.inl ⟨by rfl, ?_⟩) (by assumption) ?_
  rotate_left 1
  · intro u hSw; obtain s1 := hSw; go_simp; try with_reducible rfl
  try simp only [Act.put, List.setIfInBounds_toArray, List.set_cons_zero, List.set_cons_succ]
  refine wpAnyH_take (i := 6) (oi := { dst := some 30, op := _, type := _, pos := _, after := _, guard := _ }) (v := ?_) rfl (by kernel_rfl) (by kernel_rfl) (by kernel_rfl) (fun _ _ _ h => h) (Or.inl ⟨by rfl, ?_⟩) (by assumption) ?_
  rotate_left 1
  · intro u hSw; obtain s1 := hSw; go_simp; try with_reducible rfl
  try simp only [Act.put, List.setIfInBounds_toArray, List.set_cons_zero, List.set_cons_succ]
  refine wpAnyH_take (i := 7) (oi := { dst := some 31, op := _, type := _, pos := _, after := _, guard := _ }) (v := ?_) rfl (by kernel_rfl) (by kernel_rfl) (by kernel_rfl) (fun _ _ _ h => h) (Or.inl ⟨by rfl, ?_⟩) (by assumption) ?_
  rotate_left 1
  · intro u hSw; obtain s1 := hSw; go_simp; try with_reducible rfl
  try simp only [Act.put, List.setIfInBounds_toArray, List.set_cons_zero, List.set_cons_succ]
  refine wpAnyH_take (i := 8) (oi := { dst := some 32, op := _, type := _, pos := _, after := _, guard := _ }) (v := ?_) rfl (by kernel_rfl) (by kernel_rfl) (by kernel_rfl) (fun _ _ _ h => h) (Or.inl ⟨by rfl, ?_⟩) (by assumption) ?_
  rotate_left 1
  · intro u hSw; obtain s1 := hSw; go_simp; try with_reducible rfl
  try simp only [Act.put, List.setIfInBounds_toArray, List.set_cons_zero, List.set_cons_succ]
  refine wpAnyH_take (i := 9) (oi := { dst := some 33, op := _, type := _, pos := _, after := _, guard := _ }) (v := ?_) rfl (by kernel_rfl) (by kernel_rfl) (by kernel_rfl) (fun _ _ _ h => h) (Or.inl ⟨by rfl, ?_⟩) (by assumption) ?_
  rotate_left 1
  · intro u hSw; obtain s1 := hSw; go_simp; try with_reducible rfl
  try simp only [Act.put, List.setIfInBounds_toArray, List.set_cons_zero, List.set_cons_succ]
  refine wpAnyH_take (i := 10) (oi := { dst := some 34, op := _, type := _, pos := _, after := _, guard := _ }) (v := ?_) rfl (by kernel_rfl) (by kernel_rfl) (by kernel_rfl) (fun _ _ _ h => h) (Or.inl ⟨by rfl, ?_⟩) (by assumption) ?_
  rotate_left 1
  · intro u hSw; obtain s1 := hSw; go_simp; try with_reducible rfl
  try simp only [Act.put, List.setIfInBounds_toArray, List.set_cons_zero, List.set_cons_succ]
  refine wpAnyH_ready (rs := [11]) (by kernel_rfl) (by simp) ?_
  refine AllReadyH.cons (o := { dst := some 35, op := _, type := _, pos := _, after := _, guard := _ }) rfl (fun Kq hK => ?_) AllReadyH.nil
  obtain s1 := hHeld
  go_simp
  refine HTG.out.mono ?_
  rintro e w2 ⟨v2, rfl, hTG⟩
  have HTR := hide2 hTG
  clear hTG HTG
  go_wp2_with fail
  refine hK.out _ _ (trivial) (fun hHeld => ?_)
  clear hK Kq
  try simp only [Act.put, List.setIfInBounds_toArray, List.set_cons_zero, List.set_cons_succ]
  refine wpAnyH_take (i := 12) (oi := { dst := some 23, op := _, type := _, pos := _, after := _, guard := _ }) (v := ?_) rfl (by kernel_rfl) (by kernel_rfl) (by kernel_rfl) (fun _ _ _ h => h) (Or.inl ⟨by rfl, ?_⟩) (by assumption) ?_
  rotate_left 1
  · intro u hSw; obtain s1 := hSw; go_simp; try with_reducible rfl
  try simp only [Act.put, List.setIfInBounds_toArray, List.set_cons_zero, List.set_cons_succ]
  refine wpAnyH_take (i := 13) (oi := { dst := some 36, op := _, type := _, pos := _, after := _, guard := _ }) (v := ?_) rfl (by kernel_rfl) (by kernel_rfl) (by kernel_rfl) (fun _ _ _ h => h) (Or.inl ⟨by rfl, ?_⟩) (by assumption) ?_
  rotate_left 1
  · intro u hSw; obtain s1 := hSw; go_simp; try with_reducible rfl
  try simp only [Act.put, List.setIfInBounds_toArray, List.set_cons_zero, List.set_cons_succ]
  refine wpAnyH_take (i := 14) (oi := { dst := some 37, op := _, type := _, pos := _, after := _, guard := _ }) (v := ?_) rfl (by kernel_rfl) (by kernel_rfl) (by kernel_rfl) (fun _ _ _ h => h) (Or.inl ⟨by rfl, ?_⟩) (by assumption) ?_
  rotate_left 1
  · intro u hSw; obtain s1 := hSw; go_simp; try with_reducible rfl
  try simp only [Act.put, List.setIfInBounds_toArray, List.set_cons_zero, List.set_cons_succ]
  refine wpAnyH_take (i := 15) (oi := { dst := some 8, op := _, type := _, pos := _, after := _, guard := _ }) (v := ?_) rfl (by kernel_rfl) (by kernel_rfl) (by kernel_rfl) (fun _ _ _ h => h) (Or.inl ⟨by rfl, ?_⟩) (by assumption) ?_
  rotate_left 1
  · intro u hSw; obtain s1 := hSw; go_simp; try with_reducible rfl
  try simp only [Act.put, List.setIfInBounds_toArray, List.set_cons_zero, List.set_cons_succ]
  refine wpAnyH_take (i := 16) (oi := { dst := some 9, op := _, type := _, pos := _, after := _, guard := _ }) (v := ?_) rfl (by kernel_rfl) (by kernel_rfl) (by kernel_rfl) (fun _ _ _ h => h) (Or.inl ⟨by rfl, ?_⟩) (by assumption) ?_
  rotate_left 1
  · intro u hSw; obtain s1 := hSw; go_simp; try with_reducible rfl
  try simp only [Act.put, List.setIfInBounds_toArray, List.set_cons_zero, List.set_cons_succ]
  refine wpAnyH_done (by kernel_rfl) ?_ _
  refine NoPanic.normal ?_
  obtain ⟨K2, s, l, ab, nb, at4, now4, t, L, hll, htb, hnow⟩ := HTR.out
  obtain ⟨hall, hsp⟩ := L.over hnow
  have hvf : ∃ vo vc, v2 = .slice vo l.length vc := by
    rcases L.tm.row.2 with ⟨e, e0⟩ | ⟨g9, c9, cur9, e, -⟩
    · exact ⟨none, 0, by rw [e, e0]⟩
    · exact ⟨_, c9, e⟩
  obtain ⟨vo, vc, ev⟩ := hvf
  subst ev
  have hl40 : l.length ≤ 40 := by rw [hll, List.length_take]; omega
  have HH0 := hide2 (L.hs htb)
  have HTI := hide2 L.ti
  have HOKS := hide2 L.tm.ht.ok
  have HALL := hide2 hall
  have HSP := hide2 hsp
  have HOX : Hid (∀ u ∈ l, u.x.ok) := hide2 (fun u hu => HOK.out _ (L.ox u hu))
  clear HTR L hll hnow hall hsp
  have EV : Hid (Ev s l) := hide2 ⟨⟨_, _, HTI.out⟩, HOKS.out, HALL.out, HOX.out, hl40⟩
  go_wp2
  go_loopw [10] (fun i wr => ∃ m : Nat, m ≤ l.length ∧ i = .int .i64 m ∧ Hid (Below w2.heap.size w2 wr)) (fun i _ => l.length - (intOf i).toNat)
  case atStart => exact ⟨0, by omega, rfl, hide2 (Below.refl _ _)⟩
  case round =>
    obtain ⟨m, hm, rfl, BL⟩ := hrel
    by_cases hml : m < l.length
    · have hmi : (m : Int) < (l.length : Int) := by omega
      obtain ⟨u, hu⟩ : ∃ u, l[m]? = some u := ⟨_, List.getElem?_eq_getElem hml⟩
      have HFI := hide2 (fits_any EV.out (HH0.out.below BL.out) hu)
      clear hu
      go_wp2_with fail
      refine HFI.out.mono ?_
      rintro e w3 ⟨rfl, hb3⟩
      have BL3 := hide2 (bel BL.out hb3)
      clear HFI hb3
      go_wp2
      go_roundw
      case rel => exact ⟨m + 1, by omega, by go_num, BL3⟩
      case measure => simp [intOf]; omega
    · have hmi : ¬ (m : Int) < (l.length : Int) := by omega
      have HF := hide2 ((HH0.out.below BL.out).bl)
      go_wp2
      go_ret
      exact ⟨rfl, HF.out⟩
end
end Go.Proofs.YtopihgdbfhiejaaDoor
