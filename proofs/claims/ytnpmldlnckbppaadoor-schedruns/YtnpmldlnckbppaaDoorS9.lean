/-
  The document's Right.
-/
import Derived.Test.YtnpmldlnckbppaaDoorS8
set_option linter.unusedVariables false
set_option linter.unusedSimpArgs false
namespace Go.Proofs.YtnpmldlnckbppaaDoor
open Go.RowKit

set_option maxRecDepth 100000 in
set_option maxHeartbeats 2000000 in
theorem Right_out (w : World) (size : Int) (ao : Option Addr) (len cap : Nat) (h : size < 1 ∨ 65536 < size ∨ 16 < len) :
    Calls Tryd.prog 24 #[.int .i64 size, .slice ao len cap] w fun e w' => e = .returned (.bool false) ∧ w' = w := by
  by_cases h1 : size < 1
  · have t1 : decide (size < 1) = true := by simpa using h1
    clear h
    go_enter Tryd.func24, Tryd.ntmps24
    go_wp2
    go_ret
    exact ⟨rfl, rfl⟩
  · have t1 : decide (size < 1) = false := by simpa using h1
    by_cases h2 : 65536 < size
    · have t2 : decide (65536 < size) = true := by simpa using h2
      clear h
      go_enter Tryd.func24, Tryd.ntmps24
      go_wp2
      go_ret
      exact ⟨rfl, rfl⟩
    · have t2 : decide (65536 < size) = false := by simpa using h2
      have h3 : 16 < len := by omega
      have t3 : decide (16 < len) = true := by simpa using h3
      have t4 : decide (16 < (len : Int)) = true := by simp; omega
      clear h
      go_enter Tryd.func24, Tryd.ntmps24
      go_wp2
      go_ret
      exact ⟨rfl, rfl⟩

set_option maxRecDepth 100000 in
set_option maxHeartbeats 8000000 in
theorem Right_in (w : World) (n : Nat) (ao : Option Addr) (len cap : Nat) (Ps : List PrR) (h : Progs w ao len cap Ps) (h1 : 1 ≤ n) (h2 : n ≤ 65536) (h3 : len ≤ 16) :
    Calls Tryd.prog 24 #[.int .i64 (n : Int), .slice ao len cap] w fun e w' => e = .returned (.bool (Ps.all fun p => decide (p.ops.length ≤ 65536) && p.ops.all fun o => !bad n o)) ∧ Below w.heap.size w w' := by
  have hlen := h.out.1
  have HLEN := hide2 hlen
  have HP := hide2 h
  have t1 : decide ((n : Int) < 1) = false := by simp; omega
  have t2 : decide (65536 < (n : Int)) = false := by simp; omega
  have t3 : decide (16 < len) = false := by simp; omega
  have t4 : decide (16 < (len : Int)) = false := by simp; omega
  have HALL : Hid (∀ (p : PrR), p ∈ Ps → (decide (p.ops.length ≤ 65536) && p.ops.all fun o => !bad n o) = false → Ps.all (fun p => decide (p.ops.length ≤ 65536) && p.ops.all fun o => !bad n o) = false) := hide2 (fun p hp hf => by
    cases hx : Ps.all (fun p => decide (p.ops.length ≤ 65536) && p.ops.all fun o => !bad n o) with
    | false => rfl
    | true => rw [List.all_eq_true] at hx; have := hx p hp; rw [hf] at this; cases this)
  clear hlen h
  go_enter Tryd.func24, Tryd.ntmps24
  go_wp2
  go_loopw [5] (fun i wr => ∃ k : Nat, k ≤ len ∧ i = .int .i64 k ∧ ((Ps.take k).all fun p => decide (p.ops.length ≤ 65536) && p.ops.all fun o => !bad n o) = true ∧ Below w.heap.size w wr) (fun i _ => len - (intOf i).toNat)
  case atStart => exact ⟨0, by omega, rfl, rfl, Below.refl _ _⟩
  case round =>
    obtain ⟨k, hk, rfl, hno, hB⟩ := hrel
    by_cases hkl : k < len
    · obtain ⟨p, hp⟩ := some_at HLEN.out hkl
      obtain ⟨b, off, rfl, hbl, q0⟩ := (HP.out.keep hB).at hp
      have hpm : p ∈ Ps := List.mem_of_getElem? hp
      have HPC : Hid (∀ u : World, Below wr.heap.size wr u → u.cell? ⟨b, off + k, none⟩ = some (.slice p.ao p.len p.cap)) := hide2 (fun u hu => (hu.cell (p := ⟨b, off + k, none⟩) hbl).trans q0)
      obtain ⟨hs, -⟩ := (HP.out.keep hB).ins p hpm
      have hpl := hs.1
      have HPL := hide2 hpl
      have HS := hide2 hs
      have HB := hide2 hB
      have hwsz := hB.size
      have e1 : ((Ps.take (k + 1)).all fun p => decide (p.ops.length ≤ 65536) && p.ops.all fun o => !bad n o) = (((Ps.take k).all fun p => decide (p.ops.length ≤ 65536) && p.ops.all fun o => !bad n o) && (decide (p.ops.length ≤ 65536) && p.ops.all fun o => !bad n o)) := by
        have hk2 : k < Ps.length := by rw [HLEN.out]; exact hkl
        have : Ps[k] = p := by rw [List.getElem?_eq_getElem hk2] at hp; exact Option.some.inj hp
        rw [← List.take_append_getElem hk2, this]; simp
      have HF := hide2 (HALL.out p hpm)
      have E1 := hide2 e1
      have HO := hide2 hno
      have hkl2 : (k : Int) < (len : Int) := by omega
      clear e1 hno hs hpl hB
      by_cases hbig : 65536 < p.len
      · have u1 : decide (65536 < p.len) = true := by simpa using hbig
        have u2 : decide (65536 < (p.len : Int)) = true := by simp; omega
        go_wp2
        go_ret
        refine ⟨ret_bool (HF.out ?_).symm, HB.out⟩
        have : ¬ p.ops.length ≤ 65536 := by rw [HPL.out]; omega
        simp [this]
      · have u1 : decide (65536 < p.len) = false := by simpa using hbig
        have u2 : decide (65536 < (p.len : Int)) = false := by simp; omega
        have u3 : decide (p.ops.length ≤ 65536) = true := by rw [HPL.out]; simp; omega
        have U3 := hide2 u3
        clear u3
        obtain ⟨wx, hwx⟩ : ∃ x, x = wr := ⟨_, rfl⟩
        subst hwx
        go_wp2
        go_loopw [6] (fun i wr => ∃ j : Nat, j ≤ p.len ∧ i = .int .i64 j ∧ ((p.ops.take j).all fun o => !bad n o) = true ∧ Below wx.heap.size wx wr) (fun i _ => p.len - (intOf i).toNat)
        case atStart => exact ⟨0, by omega, rfl, rfl, Below.refl _ _⟩
        case round =>
          obtain ⟨j, hj, rfl, hnj, hBj⟩ := hrel
          have q0 := HPC.out wr hBj
          have hszj := hBj.size
          have hblr : b < wr.heap.size := by omega
          by_cases hjl : j < p.len
          · obtain ⟨b2, off2, epo, hbl2, hcell⟩ := (HS.out.keep hBj).2.2.2 (by omega)
            obtain ⟨o, ho⟩ := some_at HPL.out hjl
            rw [epo] at q0
            have r0 : wr.cell? ⟨b2, off2 + j * 4, none⟩ = some (.int .i64 o.k) := hcell j o ho 0 _ rfl
            have r1 := hcell j o ho 1 _ rfl
            have r2 := hcell j o ho 2 _ rfl
            have r3 := hcell j o ho 3 _ rfl
            have hom : o ∈ p.ops := List.mem_of_getElem? ho
            have E2 : Hid ((p.ops.take (j + 1)).all (fun o => !bad n o) = ((p.ops.take j).all (fun o => !bad n o) && !bad n o)) := hide2 (by
              have hk2 : j < p.ops.length := by rw [HPL.out]; exact hjl
              have : p.ops[j] = o := by rw [List.getElem?_eq_getElem hk2] at ho; exact Option.some.inj ho
              rw [← List.take_append_getElem hk2, this]; simp)
            have HBAD : Hid (bad n o = true → (decide (p.ops.length ≤ 65536) && p.ops.all fun o => !bad n o) = false) := hide2 (fun hb => by
              rw [U3.out]
              cases hx : (p.ops.all fun o => !bad n o) with
              | false => rfl
              | true => rw [List.all_eq_true] at hx; have := hx o hom; rw [hb] at this; cases this)
            have HNJ := hide2 hnj
            have hjl2 : (j : Int) < (p.len : Int) := by omega
            have hBa : Below wx.heap.size wx (wr.alloc (opC o.k o.c o.a o.b)) := hBj.alloc hBj.size _
            have hBw : Below w.heap.size w (wr.alloc (opC o.k o.c o.a o.b)) := HB.out.trans (hBa.mono hwsz)
            have HBa := hide2 hBa
            have HBw := hide2 hBw
            have HBD : Hid (bad n o = (decide (o.k < 1) || (decide (4 < o.k) || (decide (o.c < 0) || decide ((n : Int) ≤ o.c))))) := hide2 rfl
            clear hcell hnj hBa hBw hBj
            obtain ⟨ok, oc, oa, ob⟩ := o
            simp only at r0 r1 r2 r3 HBD HBa HBw
            by_cases g1 : ok < 1
            · have s1 : decide (ok < 1) = true := by simpa using g1
              rw [s1, Bool.true_or] at HBD
              go_wp2
              go_ret
              exact ⟨ret_bool (HF.out (HBAD.out HBD.out)).symm, HBw.out⟩
            · have s1 : decide (ok < 1) = false := by simpa using g1
              rw [s1, Bool.false_or] at HBD
              by_cases g2 : 4 < ok
              · have s2 : decide (4 < ok) = true := by simpa using g2
                rw [s2, Bool.true_or] at HBD
                go_wp2
                go_ret
                exact ⟨ret_bool (HF.out (HBAD.out HBD.out)).symm, HBw.out⟩
              · have s2 : decide (4 < ok) = false := by simpa using g2
                rw [s2, Bool.false_or] at HBD
                by_cases g3 : oc < 0
                · have s3 : decide (oc < 0) = true := by simpa using g3
                  rw [s3, Bool.true_or] at HBD
                  go_wp2
                  go_ret
                  exact ⟨ret_bool (HF.out (HBAD.out HBD.out)).symm, HBw.out⟩
                · have s3 : decide (oc < 0) = false := by simpa using g3
                  rw [s3, Bool.false_or] at HBD
                  by_cases g4 : (n : Int) ≤ oc
                  · have s4 : decide ((n : Int) ≤ oc) = true := by simpa using g4
                    rw [s4] at HBD
                    go_wp2
                    go_ret
                    exact ⟨ret_bool (HF.out (HBAD.out HBD.out)).symm, HBw.out⟩
                  · have s4 : decide ((n : Int) ≤ oc) = false := by simpa using g4
                    rw [s4] at HBD
                    go_wp2
                    go_roundw
                    case rel => exact ⟨j + 1, by omega, by go_num, by rw [E2.out, HNJ.out, HBD.out]; rfl, HBa.out⟩
                    case measure => simp [intOf]; omega
          · obtain rfl : p.len = j := by omega
            have et : p.ops.take p.len = p.ops := by rw [← HPL.out]; exact List.take_length
            rw [et] at hnj
            have HNJ := hide2 hnj
            have hBw : Below w.heap.size w wr := HB.out.trans (hBj.mono hwsz)
            clear hnj
            go_wp2
            go_roundw
            case rel => exact ⟨k + 1, by omega, by go_num, by rw [E1.out, HO.out, U3.out, HNJ.out]; rfl, hBw⟩
            case measure => simp [intOf]; omega
    · obtain rfl : len = k := by omega
      have : Ps.take len = Ps := by rw [← HLEN.out]; exact List.take_length
      rw [this] at hno
      have HO := hide2 hno
      clear hno
      go_wp2
      go_ret
      exact ⟨ret_bool HO.out.symm, hB⟩

theorem Right_any (w : World) (size : Int) (ao : Option Addr) (len cap : Nat) (Ps : List PrR) (h : Progs w ao len cap Ps) :
    Calls Tryd.prog 24 #[.int .i64 size, .slice ao len cap] w fun e w' => e = .returned (.bool (right size Ps)) ∧ Below w.heap.size w w' := by
  have hlen := h.out.1
  by_cases h1 : size < 1 ∨ 65536 < size ∨ 16 < len
  · refine (Right_out w size ao len cap h1).mono ?_
    rintro e w' ⟨rfl, rfl⟩
    refine ⟨ret_bool ?_, Below.refl _ _⟩
    unfold right
    rcases h1 with h1 | h1 | h1
    · have : decide (1 ≤ size) = false := by simp; omega
      rw [this]; rfl
    · have : decide (size ≤ 65536) = false := by simp; omega
      rw [this]; simp
    · have : decide (Ps.length ≤ 16) = false := by simp; omega
      rw [this]; simp
  · obtain ⟨n, rfl⟩ : ∃ n : Nat, size = n := ⟨size.toNat, by omega⟩
    refine (Right_in w n ao len cap Ps h (by omega) (by omega) (by omega)).mono ?_
    rintro e w' ⟨rfl, hB⟩
    refine ⟨ret_bool ?_, hB⟩
    unfold right
    have e1 : decide (1 ≤ (n : Int)) = true := by simp; omega
    have e2 : decide ((n : Int) ≤ 65536) = true := by simp; omega
    have e3 : decide (Ps.length ≤ 16) = true := by simp; omega
    rw [e1, e2, e3]
    simp
end Go.Proofs.YtnpmldlnckbppaaDoor
