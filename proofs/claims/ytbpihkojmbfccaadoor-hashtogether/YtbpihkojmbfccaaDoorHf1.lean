/-
  HashTogether, whole behind Hd6. (Printed by gen_hf1.py out of Hd7 to He1.)
-/
import Derived.Test.YtbpihkojmbfccaaDoorHd6
set_option linter.unusedVariables false
set_option linter.unusedSimpArgs false
namespace Go.Proofs.YtbpihkojmbfccaaDoor
open Go.RowKit Go.Maps Go.Sort

theorem seq_upto {α : Type} {k : Nat} {f : α → List Value} {P : Program} {w : World} {b off len cap : Nat} {xs : List α} (h : Seq k f w (some ⟨b, off, none⟩) len cap xs) (t e : TypeId) (ht : P.underlying t = some (.slice e)) (hs : ∀ u : World, (Go.sizeOf e).run P u = .ok k u) (m : Nat) (hm : m ≤ len) (h0 : 0 < m) :
    (∀ u : World, (Instr.slice t (.slice (some ⟨b, off, none⟩) len cap) none (some (.int .i64 (m : Int))) none).run P u = .ok (.slice (some ⟨b, off, none⟩) m cap) u) ∧ Seq k f w (some ⟨b, off, none⟩) m cap (xs.take m) := by
  have ht' : P.underlying t = some (.slice (P.elem t)) := by simp [Program.elem, ht]
  have he : P.elem t = e := by simp [Program.elem, ht]
  have hc := h.2.1
  refine ⟨fun u => ?_, ⟨by rw [List.length_take, h.1]; omega, by omega, h.2.2.1, fun _ => ?_⟩⟩
  · rw [run_slice_h u t _ len cap ht' .i64 m (by omega) (by omega), he, hs]
    simp only [Result.andThen, Int.toNat_natCast]
    unfold Go.sliced
    rw [if_neg (by omega)]
    simp [addr_add]
  · obtain ⟨b2, off2, eo, hb, hcell⟩ := h.2.2.2 (by omega)
    refine ⟨b2, off2, eo, hb, fun i x hi => hcell i x ?_⟩
    have := (List.getElem?_eq_some_iff.1 hi).1
    rw [List.length_take] at this
    rw [List.getElem?_take_of_lt (by omega)] at hi
    exact hi
theorem size_ask (u : World) : (Go.sizeOf 30).run Tryd.prog u = .ok 4 u := by kernel_rfl
theorem size_int (u : World) : (Go.sizeOf 3).run Tryd.prog u = .ok 1 u := by kernel_rfl


theorem un_seq {w : World} {base : Nat} {v : Value} {l : List Un} (h : w.ownsRow base 48 7 v l.length (l.flatMap Un.cells)) : ∃ ao cap, v = .slice ao l.length cap ∧ Seq 7 Un.cells w ao l.length cap l := by
  rcases h.2 with ⟨rfl, h0⟩ | ⟨g, cap, cur, rfl, hg, hh, hn, hm, hs, ht⟩
  · refine ⟨none, 0, by rw [h0], rfl, by omega, Nat.zero_le _, fun h => absurd h (by omega)⟩
  · refine ⟨_, cap, rfl, rfl, hn, hm, fun hl => ⟨g, 0, rfl, (Array.getElem?_eq_some_iff.1 hh).1, fun i x hi j u hu => ?_⟩⟩
    have hil := (List.getElem?_eq_some_iff.1 hi).1
    have hj : j < 7 := (List.getElem?_eq_some_iff.1 hu).1
    have hown : w.ownsRow base 48 7 (.slice (some ⟨g, 0, none⟩) l.length cap) l.length (l.flatMap Un.cells) := h
    rw [Nat.zero_add, hown.cellAt (i * 7 + j) (by omega), flat7 l i j x hi hj]
    exact hu

theorem drew1 {w wr : World} {q a : Nat} (h : wr = w.drewN q) : wr.drewN a = w.drewN (q + a) := by rw [h, drewN_add]

/-- What is asked of an operation that is done, beside what was put in. -/
structure Fits (l : List Un) (u : Un) (ins : List AskR) : Prop where
  no : (∀ a ∈ ins, a.key ≠ u.x.key) → u.x.look = true ∧ u.o.had = false ∧ u.o.r = 0
  yes : ∀ a ∈ ins, a.key = u.x.key → (u.o.had = true ∨ u.x.look = false) → u.o.r = a.ref
  ahead : ∀ v ∈ l, v.x.key = u.x.key → (v.x.look = false ∨ v.o.had = true) → finI v.fin < (u.beg : Int) → u.o.had = true
  fst : u.o.had = true → ∃ v ∈ l, v.x.key = u.x.key ∧ v.x.look = false ∧ (v.beg : Int) ≤ finI u.fin

section
variable {w : World}

set_option maxRecDepth 100000 in
set_option maxHeartbeats 8000000 in
theorem fits_tt {lo io : Option Addr} {n lcap il ic P : Nat} {l : List Un} {ins : List AskR} {i : Nat} {u : Un} {tv : Value} (hl : Seq 7 Un.cells w lo n lcap l) (hin : Seq 4 AskR.cells w io il ic ins) (hops : ∀ v ∈ l, Om w v.b tv v.o ∧ v.o.st = 3) (hu : l[i]? = some u) (hP : P ≤ 10000) (hc : u.o.code = 0) (hF : Fits l u ins) (hhad : u.o.had = true) (hlk : u.x.look = true) :
    Calls Tryd.prog 19 #[.slice lo n lcap, .int .i64 i, .slice io il ic, .int .i64 P] w fun e w' => e = .returned (.bool true) ∧ ∃ q, w' = w.drewN q := by
  have hi : i < n := by have := (List.getElem?_eq_some_iff.1 hu).1; rw [hl.1] at this; exact this
  have hii : (i : Int) < (n : Int) := by omega
  have hcap := hl.2.1
  have hmax := hl.2.2.1
  have hicap := hin.2.1
  have himax := hin.2.2.1
  unfold maxLen at hmax himax
  have hum := List.mem_of_getElem? hu
  obtain ⟨b, off, rfl, hbl, hcell⟩ := hl.2.2.2 (by omega)
  have u1 : w.cell? ⟨b, off + i * 7 + 1, none⟩ = some (.bool true) := by rw [← hlk]; exact hcell i u hu 1 _ rfl
  have u2 : w.cell? ⟨b, off + i * 7 + 2, none⟩ = some (.string u.x.key) := hcell i u hu 2 _ rfl
  have u4 : w.cell? ⟨b, off + i * 7 + 4, none⟩ = some (.pointer (some ⟨u.b, 0, none⟩)) := hcell i u hu 4 _ rfl
  have u5 : w.cell? ⟨b, off + i * 7 + 5, none⟩ = some (.int .i64 (u.beg : Int)) := hcell i u hu 5 _ rfl
  have u6 : w.cell? ⟨b, off + i * 7 + 6, none⟩ = some (.int .i64 (finI u.fin)) := hcell i u hu 6 _ rfl
  have hrf := ref_any (hops u hum).1 (hops u hum).2
  rw [hhad, hc] at hrf
  have HRF := hide2 hrf
  have HFD : Hid (∀ q, Calls Tryd.prog 14 #[.slice io il ic, .string u.x.key] (w.drewN q) fun e w' => (∃ r : Int, e = .returned (.int .i64 r) ∧ Fd ins u.x.key r) ∧ w' = w.drewN q) := hide2 (fun q => find_any9 (hin.keep (below_drewN _ _ _)) u.x.key)
  have HL := hide2 hl
  have HIN := hide2 hin
  have HOPS : Hid (∀ v ∈ l, ∀ q, Calls Tryd.prog 12 #[.pointer (some ⟨v.b, 0, none⟩)] (w.drewN q) fun y w' => y = .returned (.tuple #[.int .i64 v.o.r, .bool v.o.had, .int .i64 v.o.code]) ∧ ∃ q2, w' = (w.drewN q).drewN q2) := hide2 (fun v hv q => ref_any ((hops v hv).1.fr (Fr.below (F := fun _ => False) (below_drewN _ _ _)) id) (hops v hv).2)
  have HHF := hide2 hF
  have HHAD := hide2 hhad
  have HLK := hide2 hlk
  have HCELL := hide2 hcell
  clear hrf hl hin hops hF hhad hlk hc hcell hum
  go_enter Tryd.func19, Tryd.ntmps19
  go_wp2_with fail
  refine HRF.out.mono ?_
  rintro e w1 ⟨rfl, q1, hw1⟩
  subst hw1
  clear HRF
  go_wp2_with fail
  refine (HFD.out _).mono ?_
  rintro e w2 ⟨⟨r, rfl, hr⟩, hw2⟩
  subst hw2
  clear HFD
  rcases hr with ⟨rfl, hno⟩ | ⟨j, a, rfl, hj, hjk⟩
  · have h9 := HHF.out.no hno
    first
      | exact absurd (h9.1.symm.trans HLK.out) (by decide)
      | exact absurd (h9.2.1.symm.trans HHAD.out) (by decide)
  · have hjl : j < il := by have := (List.getElem?_eq_some_iff.1 hj).1; rw [HIN.out.1] at this; exact this
    have hji : (j : Int) < (il : Int) := by omega
    have hj0 : ¬ (j : Int) < 0 := by omega
    obtain ⟨ib, ioff, rfl, -, icell⟩ := HIN.out.2.2.2 (by omega)
    have a3 : w.cell? ⟨ib, ioff + j * 4 + 3, none⟩ = some (.int .i64 a.ref) := icell j a hj 3 _ rfl
    have hra : u.o.r = a.ref := HHF.out.yes a (List.mem_of_getElem? hj) hjk (.inl HHAD.out)
    have HRA := hide2 hra
    rw [← hra] at a3
    clear hra
    clear icell hj hjk
    go_wp2
    have FST := hide2 (HHF.out.fst HHAD.out)
    go_loopw [13, 14, 15, 16, 17, 18, 19] (fun f k _ _ _ _ _ wr => ∃ (m q : Nat) (z : Int), m ≤ n ∧ f = .int .i64 z ∧ k = .int .i64 m ∧ Hid (∀ v ∈ l.take m, v.x.key = u.x.key → v.x.look = false → z ≤ (v.beg : Int)) ∧ wr = w.drewN q) (fun _ k _ _ _ _ _ _ => n - (intOf k).toNat)
    case atStart => exact ⟨0, _, _, by omega, rfl, rfl, hide2 (fun v hv => by simp at hv), rfl⟩
    case round =>
      obtain ⟨m, q, z, hm, rfl, rfl, hz, hwr⟩ := hrel
      have HWR := hide2 hwr
      by_cases hml : m < n
      · have hmi : (m : Int) < (n : Int) := by omega
        obtain ⟨v, hv⟩ := some_at HL.out.1 hml
        have hvm := List.mem_of_getElem? hv
        have hcell := HCELL.out
        have v2 : wr.cell? ⟨b, off + m * 7 + 2, none⟩ = some (.string v.x.key) := by rw [hwr]; exact hcell m v hv 2 _ rfl
        have v4 : wr.cell? ⟨b, off + m * 7 + 4, none⟩ = some (.pointer (some ⟨v.b, 0, none⟩)) := by rw [hwr]; exact hcell m v hv 4 _ rfl
        have v5 : wr.cell? ⟨b, off + m * 7 + 5, none⟩ = some (.int .i64 (v.beg : Int)) := by rw [hwr]; exact hcell m v hv 5 _ rfl
        have v6 : wr.cell? ⟨b, off + m * 7 + 6, none⟩ = some (.int .i64 (finI v.fin)) := by rw [hwr]; exact hcell m v hv 6 _ rfl
        have x2 : wr.cell? ⟨b, off + i * 7 + 2, none⟩ = some (.string u.x.key) := by rw [hwr]; exact u2
        have x5 : wr.cell? ⟨b, off + i * 7 + 5, none⟩ = some (.int .i64 (u.beg : Int)) := by rw [hwr]; exact u5
        have hm2 : m < l.length := by rw [HL.out.1]; exact hml
        have hat : l[m] = v := by rw [List.getElem?_eq_getElem hm2] at hv; exact Option.some.inj hv
        have HE : Hid (l.take (m + 1) = l.take m ++ [v]) := hide2 (by rw [← List.take_append_getElem hm2, hat])
        have v1 : wr.cell? ⟨b, off + m * 7 + 1, none⟩ = some (.bool v.x.look) := by rw [hwr]; exact hcell m v hv 1 _ rfl
        have hrv : ∀ q2, Calls Tryd.prog 12 #[.pointer (some ⟨v.b, 0, none⟩)] (wr.drewN q2) fun y w' => y = .returned (.tuple #[.int .i64 v.o.r, .bool v.o.had, .int .i64 v.o.code]) ∧ ∃ q3, w' = (wr.drewN q2).drewN q3 := fun q2 => by
          rw [hwr, drewN_add]
          exact HOPS.out v hvm _
        have HRV := hide2 hrv
        have HVM := hide2 hvm
        clear hwr hat hv hvm hrv hm2 u1 u2 u4 u5 u6 a3
        by_cases hk : v.x.key = u.x.key
        · have e1 : (v.x.key.toList == u.x.key.toList) = true := by rw [hk]; simp
          have HK := hide2 hk
          clear hk
          cases hvl : v.x.look with
          | false =>
            rw [hvl] at v1
            have HV := hide2 hvl
            clear hvl
            by_cases hfb : finI v.fin < (u.beg : Int)
            · have df : decide (finI v.fin < (u.beg : Int)) = true := decide_eq_true hfb
              have NX : Hid (∀ y ∈ l.take (m + 1), y.x.key = u.x.key → y.x.look = false → min z (v.beg : Int) ≤ (y.beg : Int)) := hide2 (by
                rw [HE.out]; intro y hy h1 h2
                rcases List.mem_append.1 hy with h3 | h3
                · have := hz.out y h3 h1 h2; omega
                · simp at h3; subst h3; omega)
              clear hcell
              go_wp2
              go_quiet (fail)
              go_wp2_with fail
              refine (HRV.out _).mono ?_
              rintro e w2 ⟨rfl, q2, hw2⟩
              subst hw2
              go_wp2
              go_quiet (fail)
              go_wp2
              go_roundw
              case rel => exact ⟨m + 1, _, min z (v.beg : Int), by omega, rfl, by go_num, NX, drew1 HWR.out⟩
              case measure => simp [intOf]; omega
            · have df : decide (finI v.fin < (u.beg : Int)) = false := decide_eq_false hfb
              have NX : Hid (∀ y ∈ l.take (m + 1), y.x.key = u.x.key → y.x.look = false → min z (v.beg : Int) ≤ (y.beg : Int)) := hide2 (by
                rw [HE.out]; intro y hy h1 h2
                rcases List.mem_append.1 hy with h3 | h3
                · have := hz.out y h3 h1 h2; omega
                · simp at h3; subst h3; omega)
              clear hcell
              go_wp2
              go_quiet (fail)
              go_wp2_with fail
              refine (HRV.out _).mono ?_
              rintro e w2 ⟨rfl, q2, hw2⟩
              subst hw2
              go_wp2
              go_quiet (fail)
              go_wp2
              go_roundw
              case rel => exact ⟨m + 1, _, min z (v.beg : Int), by omega, rfl, by go_num, NX, drew1 HWR.out⟩
              case measure => simp [intOf]; omega
          | true =>
            rw [hvl] at v1
            have HV := hide2 hvl
            clear hvl
            cases hvh : v.o.had with
            | true =>
              rw [hvh] at HRV
              by_cases hfb : finI v.fin < (u.beg : Int)
              · have df : decide (finI v.fin < (u.beg : Int)) = true := decide_eq_true hfb
                clear hvh
                have NX : Hid (∀ y ∈ l.take (m + 1), y.x.key = u.x.key → y.x.look = false → z ≤ (y.beg : Int)) := hide2 (by
                  rw [HE.out]; intro y hy h1 h2
                  rcases List.mem_append.1 hy with h3 | h3
                  · exact hz.out y h3 h1 h2
                  · simp at h3; subst h3; exact absurd (h2.symm.trans HV.out) (by decide))
                clear hcell
                go_wp2
                go_quiet (fail)
                go_wp2_with fail
                refine (HRV.out _).mono ?_
                rintro e w2 ⟨rfl, q2, hw2⟩
                subst hw2
                go_wp2
                go_quiet (fail)
                go_wp2
                go_roundw
                case rel => exact ⟨m + 1, _, z, by omega, rfl, by go_num, NX, drew1 HWR.out⟩
                case measure => simp [intOf]; omega
              · have df : decide (finI v.fin < (u.beg : Int)) = false := decide_eq_false hfb
                clear hvh
                have NX : Hid (∀ y ∈ l.take (m + 1), y.x.key = u.x.key → y.x.look = false → z ≤ (y.beg : Int)) := hide2 (by
                  rw [HE.out]; intro y hy h1 h2
                  rcases List.mem_append.1 hy with h3 | h3
                  · exact hz.out y h3 h1 h2
                  · simp at h3; subst h3; exact absurd (h2.symm.trans HV.out) (by decide))
                clear hcell
                go_wp2
                go_quiet (fail)
                go_wp2_with fail
                refine (HRV.out _).mono ?_
                rintro e w2 ⟨rfl, q2, hw2⟩
                subst hw2
                go_wp2
                go_quiet (fail)
                go_wp2
                go_roundw
                case rel => exact ⟨m + 1, _, z, by omega, rfl, by go_num, NX, drew1 HWR.out⟩
                case measure => simp [intOf]; omega
            | false =>
              rw [hvh] at HRV
              clear hvh
              have NX : Hid (∀ y ∈ l.take (m + 1), y.x.key = u.x.key → y.x.look = false → z ≤ (y.beg : Int)) := hide2 (by
                rw [HE.out]; intro y hy h1 h2
                rcases List.mem_append.1 hy with h3 | h3
                · exact hz.out y h3 h1 h2
                · simp at h3; subst h3; exact absurd (h2.symm.trans HV.out) (by decide))
              clear hcell
              go_wp2
              go_quiet (fail)
              go_wp2_with fail
              refine (HRV.out _).mono ?_
              rintro e w2 ⟨rfl, q2, hw2⟩
              subst hw2
              go_wp2
              go_quiet (fail)
              go_wp2
              go_roundw
              case rel => exact ⟨m + 1, _, z, by omega, rfl, by go_num, NX, drew1 HWR.out⟩
              case measure => simp [intOf]; omega
        · have e1 : (v.x.key.toList == u.x.key.toList) = false := by
            rw [beq_eq_false_iff_ne]; exact fun q => hk (toList_inj q)
          have HK := hide2 hk
          clear hk
          cases hvl : v.x.look with
          | false =>
            rw [hvl] at v1
            clear hvl
            have NX : Hid (∀ y ∈ l.take (m + 1), y.x.key = u.x.key → y.x.look = false → z ≤ (y.beg : Int)) := hide2 (by
              rw [HE.out]; intro y hy h1 h2
              rcases List.mem_append.1 hy with h3 | h3
              · exact hz.out y h3 h1 h2
              · simp at h3; subst h3; exact absurd h1 HK.out)
            clear hcell
            go_wp2
            go_quiet (fail)
            go_wp2_with fail
            refine (HRV.out _).mono ?_
            rintro e w2 ⟨rfl, q2, hw2⟩
            subst hw2
            go_wp2
            go_quiet (fail)
            go_wp2
            go_roundw
            case rel => exact ⟨m + 1, _, z, by omega, rfl, by go_num, NX, drew1 HWR.out⟩
            case measure => simp [intOf]; omega
          | true =>
            rw [hvl] at v1
            clear hvl
            have NX : Hid (∀ y ∈ l.take (m + 1), y.x.key = u.x.key → y.x.look = false → z ≤ (y.beg : Int)) := hide2 (by
              rw [HE.out]; intro y hy h1 h2
              rcases List.mem_append.1 hy with h3 | h3
              · exact hz.out y h3 h1 h2
              · simp at h3; subst h3; exact absurd h1 HK.out)
            clear hcell
            go_wp2
            go_quiet (fail)
            go_wp2_with fail
            refine (HRV.out _).mono ?_
            rintro e w2 ⟨rfl, q2, hw2⟩
            subst hw2
            go_wp2
            go_quiet (fail)
            go_wp2
            go_roundw
            case rel => exact ⟨m + 1, _, z, by omega, rfl, by go_num, NX, drew1 HWR.out⟩
            case measure => simp [intOf]; omega
      · obtain rfl : m = n := by omega
        have hmi : ¬ (m : Int) < (m : Int) := by omega
        have x6 : wr.cell? ⟨b, off + i * 7 + 6, none⟩ = some (.int .i64 (finI u.fin)) := by rw [hwr]; exact u6
        have hfin : z ≤ finI u.fin := by
          obtain ⟨y, hy, h1, h2, h3⟩ := FST.out
          have := hz.out y (by rw [show l.take m = l from by rw [← HL.out.1]; exact List.take_length]; exact hy) h1 h2
          omega
        have dfi : decide (z ≤ finI u.fin) = true := decide_eq_true hfin
        clear hwr
        go_wp2
        go_ret
        exact ⟨rfl, _, HWR.out⟩
end

section
variable {w : World}

set_option maxRecDepth 100000 in
set_option maxHeartbeats 8000000 in
theorem fits_tf {lo io : Option Addr} {n lcap il ic P : Nat} {l : List Un} {ins : List AskR} {i : Nat} {u : Un} {tv : Value} (hl : Seq 7 Un.cells w lo n lcap l) (hin : Seq 4 AskR.cells w io il ic ins) (hops : ∀ v ∈ l, Om w v.b tv v.o ∧ v.o.st = 3) (hu : l[i]? = some u) (hP : P ≤ 10000) (hc : u.o.code = 0) (hF : Fits l u ins) (hhad : u.o.had = true) (hlk : u.x.look = false) :
    Calls Tryd.prog 19 #[.slice lo n lcap, .int .i64 i, .slice io il ic, .int .i64 P] w fun e w' => e = .returned (.bool true) ∧ ∃ q, w' = w.drewN q := by
  have hi : i < n := by have := (List.getElem?_eq_some_iff.1 hu).1; rw [hl.1] at this; exact this
  have hii : (i : Int) < (n : Int) := by omega
  have hcap := hl.2.1
  have hmax := hl.2.2.1
  have hicap := hin.2.1
  have himax := hin.2.2.1
  unfold maxLen at hmax himax
  have hum := List.mem_of_getElem? hu
  obtain ⟨b, off, rfl, hbl, hcell⟩ := hl.2.2.2 (by omega)
  have u1 : w.cell? ⟨b, off + i * 7 + 1, none⟩ = some (.bool false) := by rw [← hlk]; exact hcell i u hu 1 _ rfl
  have u2 : w.cell? ⟨b, off + i * 7 + 2, none⟩ = some (.string u.x.key) := hcell i u hu 2 _ rfl
  have u4 : w.cell? ⟨b, off + i * 7 + 4, none⟩ = some (.pointer (some ⟨u.b, 0, none⟩)) := hcell i u hu 4 _ rfl
  have u5 : w.cell? ⟨b, off + i * 7 + 5, none⟩ = some (.int .i64 (u.beg : Int)) := hcell i u hu 5 _ rfl
  have u6 : w.cell? ⟨b, off + i * 7 + 6, none⟩ = some (.int .i64 (finI u.fin)) := hcell i u hu 6 _ rfl
  have hrf := ref_any (hops u hum).1 (hops u hum).2
  rw [hhad, hc] at hrf
  have HRF := hide2 hrf
  have HFD : Hid (∀ q, Calls Tryd.prog 14 #[.slice io il ic, .string u.x.key] (w.drewN q) fun e w' => (∃ r : Int, e = .returned (.int .i64 r) ∧ Fd ins u.x.key r) ∧ w' = w.drewN q) := hide2 (fun q => find_any9 (hin.keep (below_drewN _ _ _)) u.x.key)
  have HL := hide2 hl
  have HIN := hide2 hin
  have HOPS : Hid (∀ v ∈ l, ∀ q, Calls Tryd.prog 12 #[.pointer (some ⟨v.b, 0, none⟩)] (w.drewN q) fun y w' => y = .returned (.tuple #[.int .i64 v.o.r, .bool v.o.had, .int .i64 v.o.code]) ∧ ∃ q2, w' = (w.drewN q).drewN q2) := hide2 (fun v hv q => ref_any ((hops v hv).1.fr (Fr.below (F := fun _ => False) (below_drewN _ _ _)) id) (hops v hv).2)
  have HHF := hide2 hF
  have HHAD := hide2 hhad
  have HLK := hide2 hlk
  have HCELL := hide2 hcell
  clear hrf hl hin hops hF hhad hlk hc hcell hum
  go_enter Tryd.func19, Tryd.ntmps19
  go_wp2_with fail
  refine HRF.out.mono ?_
  rintro e w1 ⟨rfl, q1, hw1⟩
  subst hw1
  clear HRF
  go_wp2_with fail
  refine (HFD.out _).mono ?_
  rintro e w2 ⟨⟨r, rfl, hr⟩, hw2⟩
  subst hw2
  clear HFD
  rcases hr with ⟨rfl, hno⟩ | ⟨j, a, rfl, hj, hjk⟩
  · have h9 := HHF.out.no hno
    first
      | exact absurd (h9.1.symm.trans HLK.out) (by decide)
      | exact absurd (h9.2.1.symm.trans HHAD.out) (by decide)
  · have hjl : j < il := by have := (List.getElem?_eq_some_iff.1 hj).1; rw [HIN.out.1] at this; exact this
    have hji : (j : Int) < (il : Int) := by omega
    have hj0 : ¬ (j : Int) < 0 := by omega
    obtain ⟨ib, ioff, rfl, -, icell⟩ := HIN.out.2.2.2 (by omega)
    have a3 : w.cell? ⟨ib, ioff + j * 4 + 3, none⟩ = some (.int .i64 a.ref) := icell j a hj 3 _ rfl
    have hra : u.o.r = a.ref := HHF.out.yes a (List.mem_of_getElem? hj) hjk (.inl HHAD.out)
    have HRA := hide2 hra
    rw [← hra] at a3
    clear hra
    clear icell hj hjk
    go_wp2
    have FST := hide2 (HHF.out.fst HHAD.out)
    go_loopw [13, 14, 15, 16, 17, 18, 19] (fun f k _ _ _ _ _ wr => ∃ (m q : Nat) (z : Int), m ≤ n ∧ f = .int .i64 z ∧ k = .int .i64 m ∧ Hid (∀ v ∈ l.take m, v.x.key = u.x.key → v.x.look = false → z ≤ (v.beg : Int)) ∧ wr = w.drewN q) (fun _ k _ _ _ _ _ _ => n - (intOf k).toNat)
    case atStart => exact ⟨0, _, _, by omega, rfl, rfl, hide2 (fun v hv => by simp at hv), rfl⟩
    case round =>
      obtain ⟨m, q, z, hm, rfl, rfl, hz, hwr⟩ := hrel
      have HWR := hide2 hwr
      by_cases hml : m < n
      · have hmi : (m : Int) < (n : Int) := by omega
        obtain ⟨v, hv⟩ := some_at HL.out.1 hml
        have hvm := List.mem_of_getElem? hv
        have hcell := HCELL.out
        have v2 : wr.cell? ⟨b, off + m * 7 + 2, none⟩ = some (.string v.x.key) := by rw [hwr]; exact hcell m v hv 2 _ rfl
        have v4 : wr.cell? ⟨b, off + m * 7 + 4, none⟩ = some (.pointer (some ⟨v.b, 0, none⟩)) := by rw [hwr]; exact hcell m v hv 4 _ rfl
        have v5 : wr.cell? ⟨b, off + m * 7 + 5, none⟩ = some (.int .i64 (v.beg : Int)) := by rw [hwr]; exact hcell m v hv 5 _ rfl
        have v6 : wr.cell? ⟨b, off + m * 7 + 6, none⟩ = some (.int .i64 (finI v.fin)) := by rw [hwr]; exact hcell m v hv 6 _ rfl
        have x2 : wr.cell? ⟨b, off + i * 7 + 2, none⟩ = some (.string u.x.key) := by rw [hwr]; exact u2
        have x5 : wr.cell? ⟨b, off + i * 7 + 5, none⟩ = some (.int .i64 (u.beg : Int)) := by rw [hwr]; exact u5
        have hm2 : m < l.length := by rw [HL.out.1]; exact hml
        have hat : l[m] = v := by rw [List.getElem?_eq_getElem hm2] at hv; exact Option.some.inj hv
        have HE : Hid (l.take (m + 1) = l.take m ++ [v]) := hide2 (by rw [← List.take_append_getElem hm2, hat])
        have v1 : wr.cell? ⟨b, off + m * 7 + 1, none⟩ = some (.bool v.x.look) := by rw [hwr]; exact hcell m v hv 1 _ rfl
        have hrv : ∀ q2, Calls Tryd.prog 12 #[.pointer (some ⟨v.b, 0, none⟩)] (wr.drewN q2) fun y w' => y = .returned (.tuple #[.int .i64 v.o.r, .bool v.o.had, .int .i64 v.o.code]) ∧ ∃ q3, w' = (wr.drewN q2).drewN q3 := fun q2 => by
          rw [hwr, drewN_add]
          exact HOPS.out v hvm _
        have HRV := hide2 hrv
        have HVM := hide2 hvm
        clear hwr hat hv hvm hrv hm2 u1 u2 u4 u5 u6 a3
        by_cases hk : v.x.key = u.x.key
        · have e1 : (v.x.key.toList == u.x.key.toList) = true := by rw [hk]; simp
          have HK := hide2 hk
          clear hk
          cases hvl : v.x.look with
          | false =>
            rw [hvl] at v1
            have HV := hide2 hvl
            clear hvl
            by_cases hfb : finI v.fin < (u.beg : Int)
            · have df : decide (finI v.fin < (u.beg : Int)) = true := decide_eq_true hfb
              have NX : Hid (∀ y ∈ l.take (m + 1), y.x.key = u.x.key → y.x.look = false → min z (v.beg : Int) ≤ (y.beg : Int)) := hide2 (by
                rw [HE.out]; intro y hy h1 h2
                rcases List.mem_append.1 hy with h3 | h3
                · have := hz.out y h3 h1 h2; omega
                · simp at h3; subst h3; omega)
              clear hcell
              go_wp2
              go_quiet (fail)
              go_wp2_with fail
              refine (HRV.out _).mono ?_
              rintro e w2 ⟨rfl, q2, hw2⟩
              subst hw2
              go_wp2
              go_quiet (fail)
              go_wp2
              go_roundw
              case rel => exact ⟨m + 1, _, min z (v.beg : Int), by omega, rfl, by go_num, NX, drew1 HWR.out⟩
              case measure => simp [intOf]; omega
            · have df : decide (finI v.fin < (u.beg : Int)) = false := decide_eq_false hfb
              have NX : Hid (∀ y ∈ l.take (m + 1), y.x.key = u.x.key → y.x.look = false → min z (v.beg : Int) ≤ (y.beg : Int)) := hide2 (by
                rw [HE.out]; intro y hy h1 h2
                rcases List.mem_append.1 hy with h3 | h3
                · have := hz.out y h3 h1 h2; omega
                · simp at h3; subst h3; omega)
              clear hcell
              go_wp2
              go_quiet (fail)
              go_wp2_with fail
              refine (HRV.out _).mono ?_
              rintro e w2 ⟨rfl, q2, hw2⟩
              subst hw2
              go_wp2
              go_quiet (fail)
              go_wp2
              go_roundw
              case rel => exact ⟨m + 1, _, min z (v.beg : Int), by omega, rfl, by go_num, NX, drew1 HWR.out⟩
              case measure => simp [intOf]; omega
          | true =>
            rw [hvl] at v1
            have HV := hide2 hvl
            clear hvl
            cases hvh : v.o.had with
            | true =>
              rw [hvh] at HRV
              by_cases hfb : finI v.fin < (u.beg : Int)
              · have df : decide (finI v.fin < (u.beg : Int)) = true := decide_eq_true hfb
                clear hvh
                have NX : Hid (∀ y ∈ l.take (m + 1), y.x.key = u.x.key → y.x.look = false → z ≤ (y.beg : Int)) := hide2 (by
                  rw [HE.out]; intro y hy h1 h2
                  rcases List.mem_append.1 hy with h3 | h3
                  · exact hz.out y h3 h1 h2
                  · simp at h3; subst h3; exact absurd (h2.symm.trans HV.out) (by decide))
                clear hcell
                go_wp2
                go_quiet (fail)
                go_wp2_with fail
                refine (HRV.out _).mono ?_
                rintro e w2 ⟨rfl, q2, hw2⟩
                subst hw2
                go_wp2
                go_quiet (fail)
                go_wp2
                go_roundw
                case rel => exact ⟨m + 1, _, z, by omega, rfl, by go_num, NX, drew1 HWR.out⟩
                case measure => simp [intOf]; omega
              · have df : decide (finI v.fin < (u.beg : Int)) = false := decide_eq_false hfb
                clear hvh
                have NX : Hid (∀ y ∈ l.take (m + 1), y.x.key = u.x.key → y.x.look = false → z ≤ (y.beg : Int)) := hide2 (by
                  rw [HE.out]; intro y hy h1 h2
                  rcases List.mem_append.1 hy with h3 | h3
                  · exact hz.out y h3 h1 h2
                  · simp at h3; subst h3; exact absurd (h2.symm.trans HV.out) (by decide))
                clear hcell
                go_wp2
                go_quiet (fail)
                go_wp2_with fail
                refine (HRV.out _).mono ?_
                rintro e w2 ⟨rfl, q2, hw2⟩
                subst hw2
                go_wp2
                go_quiet (fail)
                go_wp2
                go_roundw
                case rel => exact ⟨m + 1, _, z, by omega, rfl, by go_num, NX, drew1 HWR.out⟩
                case measure => simp [intOf]; omega
            | false =>
              rw [hvh] at HRV
              clear hvh
              have NX : Hid (∀ y ∈ l.take (m + 1), y.x.key = u.x.key → y.x.look = false → z ≤ (y.beg : Int)) := hide2 (by
                rw [HE.out]; intro y hy h1 h2
                rcases List.mem_append.1 hy with h3 | h3
                · exact hz.out y h3 h1 h2
                · simp at h3; subst h3; exact absurd (h2.symm.trans HV.out) (by decide))
              clear hcell
              go_wp2
              go_quiet (fail)
              go_wp2_with fail
              refine (HRV.out _).mono ?_
              rintro e w2 ⟨rfl, q2, hw2⟩
              subst hw2
              go_wp2
              go_quiet (fail)
              go_wp2
              go_roundw
              case rel => exact ⟨m + 1, _, z, by omega, rfl, by go_num, NX, drew1 HWR.out⟩
              case measure => simp [intOf]; omega
        · have e1 : (v.x.key.toList == u.x.key.toList) = false := by
            rw [beq_eq_false_iff_ne]; exact fun q => hk (toList_inj q)
          have HK := hide2 hk
          clear hk
          cases hvl : v.x.look with
          | false =>
            rw [hvl] at v1
            clear hvl
            have NX : Hid (∀ y ∈ l.take (m + 1), y.x.key = u.x.key → y.x.look = false → z ≤ (y.beg : Int)) := hide2 (by
              rw [HE.out]; intro y hy h1 h2
              rcases List.mem_append.1 hy with h3 | h3
              · exact hz.out y h3 h1 h2
              · simp at h3; subst h3; exact absurd h1 HK.out)
            clear hcell
            go_wp2
            go_quiet (fail)
            go_wp2_with fail
            refine (HRV.out _).mono ?_
            rintro e w2 ⟨rfl, q2, hw2⟩
            subst hw2
            go_wp2
            go_quiet (fail)
            go_wp2
            go_roundw
            case rel => exact ⟨m + 1, _, z, by omega, rfl, by go_num, NX, drew1 HWR.out⟩
            case measure => simp [intOf]; omega
          | true =>
            rw [hvl] at v1
            clear hvl
            have NX : Hid (∀ y ∈ l.take (m + 1), y.x.key = u.x.key → y.x.look = false → z ≤ (y.beg : Int)) := hide2 (by
              rw [HE.out]; intro y hy h1 h2
              rcases List.mem_append.1 hy with h3 | h3
              · exact hz.out y h3 h1 h2
              · simp at h3; subst h3; exact absurd h1 HK.out)
            clear hcell
            go_wp2
            go_quiet (fail)
            go_wp2_with fail
            refine (HRV.out _).mono ?_
            rintro e w2 ⟨rfl, q2, hw2⟩
            subst hw2
            go_wp2
            go_quiet (fail)
            go_wp2
            go_roundw
            case rel => exact ⟨m + 1, _, z, by omega, rfl, by go_num, NX, drew1 HWR.out⟩
            case measure => simp [intOf]; omega
      · obtain rfl : m = n := by omega
        have hmi : ¬ (m : Int) < (m : Int) := by omega
        have x6 : wr.cell? ⟨b, off + i * 7 + 6, none⟩ = some (.int .i64 (finI u.fin)) := by rw [hwr]; exact u6
        have hfin : z ≤ finI u.fin := by
          obtain ⟨y, hy, h1, h2, h3⟩ := FST.out
          have := hz.out y (by rw [show l.take m = l from by rw [← HL.out.1]; exact List.take_length]; exact hy) h1 h2
          omega
        have dfi : decide (z ≤ finI u.fin) = true := decide_eq_true hfin
        clear hwr
        go_wp2
        go_ret
        exact ⟨rfl, _, HWR.out⟩
end

section
variable {w : World}

set_option maxRecDepth 100000 in
set_option maxHeartbeats 8000000 in
theorem fits_ft {lo io : Option Addr} {n lcap il ic P : Nat} {l : List Un} {ins : List AskR} {i : Nat} {u : Un} {tv : Value} (hl : Seq 7 Un.cells w lo n lcap l) (hin : Seq 4 AskR.cells w io il ic ins) (hops : ∀ v ∈ l, Om w v.b tv v.o ∧ v.o.st = 3) (hu : l[i]? = some u) (hP : P ≤ 10000) (hc : u.o.code = 0) (hF : Fits l u ins) (hhad : u.o.had = false) (hlk : u.x.look = true) :
    Calls Tryd.prog 19 #[.slice lo n lcap, .int .i64 i, .slice io il ic, .int .i64 P] w fun e w' => e = .returned (.bool true) ∧ ∃ q, w' = w.drewN q := by
  have hi : i < n := by have := (List.getElem?_eq_some_iff.1 hu).1; rw [hl.1] at this; exact this
  have hii : (i : Int) < (n : Int) := by omega
  have hcap := hl.2.1
  have hmax := hl.2.2.1
  have hicap := hin.2.1
  have himax := hin.2.2.1
  unfold maxLen at hmax himax
  have hum := List.mem_of_getElem? hu
  obtain ⟨b, off, rfl, hbl, hcell⟩ := hl.2.2.2 (by omega)
  have u1 : w.cell? ⟨b, off + i * 7 + 1, none⟩ = some (.bool true) := by rw [← hlk]; exact hcell i u hu 1 _ rfl
  have u2 : w.cell? ⟨b, off + i * 7 + 2, none⟩ = some (.string u.x.key) := hcell i u hu 2 _ rfl
  have u4 : w.cell? ⟨b, off + i * 7 + 4, none⟩ = some (.pointer (some ⟨u.b, 0, none⟩)) := hcell i u hu 4 _ rfl
  have u5 : w.cell? ⟨b, off + i * 7 + 5, none⟩ = some (.int .i64 (u.beg : Int)) := hcell i u hu 5 _ rfl
  have u6 : w.cell? ⟨b, off + i * 7 + 6, none⟩ = some (.int .i64 (finI u.fin)) := hcell i u hu 6 _ rfl
  have hrf := ref_any (hops u hum).1 (hops u hum).2
  rw [hhad, hc] at hrf
  have HRF := hide2 hrf
  have HFD : Hid (∀ q, Calls Tryd.prog 14 #[.slice io il ic, .string u.x.key] (w.drewN q) fun e w' => (∃ r : Int, e = .returned (.int .i64 r) ∧ Fd ins u.x.key r) ∧ w' = w.drewN q) := hide2 (fun q => find_any9 (hin.keep (below_drewN _ _ _)) u.x.key)
  have HL := hide2 hl
  have HIN := hide2 hin
  have HOPS : Hid (∀ v ∈ l, ∀ q, Calls Tryd.prog 12 #[.pointer (some ⟨v.b, 0, none⟩)] (w.drewN q) fun y w' => y = .returned (.tuple #[.int .i64 v.o.r, .bool v.o.had, .int .i64 v.o.code]) ∧ ∃ q2, w' = (w.drewN q).drewN q2) := hide2 (fun v hv q => ref_any ((hops v hv).1.fr (Fr.below (F := fun _ => False) (below_drewN _ _ _)) id) (hops v hv).2)
  have HHF := hide2 hF
  have HHAD := hide2 hhad
  have HLK := hide2 hlk
  have HCELL := hide2 hcell
  clear hrf hl hin hops hF hhad hlk hc hcell hum
  go_enter Tryd.func19, Tryd.ntmps19
  go_wp2_with fail
  refine HRF.out.mono ?_
  rintro e w1 ⟨rfl, q1, hw1⟩
  subst hw1
  clear HRF
  go_wp2_with fail
  refine (HFD.out _).mono ?_
  rintro e w2 ⟨⟨r, rfl, hr⟩, hw2⟩
  subst hw2
  clear HFD
  rcases hr with ⟨rfl, hno⟩ | ⟨j, a, rfl, hj, hjk⟩
  · have hr0 := (HHF.out.no hno).2.2
    rw [hr0]
    clear hno hr0
    go_wp2
    go_ret
    exact ⟨rfl, _, rfl⟩
  · have hjl : j < il := by have := (List.getElem?_eq_some_iff.1 hj).1; rw [HIN.out.1] at this; exact this
    have hji : (j : Int) < (il : Int) := by omega
    have hj0 : ¬ (j : Int) < 0 := by omega
    obtain ⟨ib, ioff, rfl, -, icell⟩ := HIN.out.2.2.2 (by omega)
    have a3 : w.cell? ⟨ib, ioff + j * 4 + 3, none⟩ = some (.int .i64 a.ref) := icell j a hj 3 _ rfl
    clear icell hj hjk
    go_wp2
    go_loopw [13, 14, 15, 16, 17, 18, 19] (fun f k _ _ _ _ _ wr => ∃ (m q : Nat) (z : Int), m ≤ n ∧ f = .int .i64 z ∧ k = .int .i64 m ∧ Hid (∀ v ∈ l.take m, v.x.key = u.x.key → v.x.look = false → z ≤ (v.beg : Int)) ∧ wr = w.drewN q) (fun _ k _ _ _ _ _ _ => n - (intOf k).toNat)
    case atStart => exact ⟨0, _, _, by omega, rfl, rfl, hide2 (fun v hv => by simp at hv), rfl⟩
    case round =>
      obtain ⟨m, q, z, hm, rfl, rfl, hz, hwr⟩ := hrel
      have HWR := hide2 hwr
      by_cases hml : m < n
      · have hmi : (m : Int) < (n : Int) := by omega
        obtain ⟨v, hv⟩ := some_at HL.out.1 hml
        have hvm := List.mem_of_getElem? hv
        have hcell := HCELL.out
        have v2 : wr.cell? ⟨b, off + m * 7 + 2, none⟩ = some (.string v.x.key) := by rw [hwr]; exact hcell m v hv 2 _ rfl
        have v4 : wr.cell? ⟨b, off + m * 7 + 4, none⟩ = some (.pointer (some ⟨v.b, 0, none⟩)) := by rw [hwr]; exact hcell m v hv 4 _ rfl
        have v5 : wr.cell? ⟨b, off + m * 7 + 5, none⟩ = some (.int .i64 (v.beg : Int)) := by rw [hwr]; exact hcell m v hv 5 _ rfl
        have v6 : wr.cell? ⟨b, off + m * 7 + 6, none⟩ = some (.int .i64 (finI v.fin)) := by rw [hwr]; exact hcell m v hv 6 _ rfl
        have x2 : wr.cell? ⟨b, off + i * 7 + 2, none⟩ = some (.string u.x.key) := by rw [hwr]; exact u2
        have x5 : wr.cell? ⟨b, off + i * 7 + 5, none⟩ = some (.int .i64 (u.beg : Int)) := by rw [hwr]; exact u5
        have hm2 : m < l.length := by rw [HL.out.1]; exact hml
        have hat : l[m] = v := by rw [List.getElem?_eq_getElem hm2] at hv; exact Option.some.inj hv
        have HE : Hid (l.take (m + 1) = l.take m ++ [v]) := hide2 (by rw [← List.take_append_getElem hm2, hat])
        have v1 : wr.cell? ⟨b, off + m * 7 + 1, none⟩ = some (.bool v.x.look) := by rw [hwr]; exact hcell m v hv 1 _ rfl
        have hrv : ∀ q2, Calls Tryd.prog 12 #[.pointer (some ⟨v.b, 0, none⟩)] (wr.drewN q2) fun y w' => y = .returned (.tuple #[.int .i64 v.o.r, .bool v.o.had, .int .i64 v.o.code]) ∧ ∃ q3, w' = (wr.drewN q2).drewN q3 := fun q2 => by
          rw [hwr, drewN_add]
          exact HOPS.out v hvm _
        have HRV := hide2 hrv
        have HVM := hide2 hvm
        clear hwr hat hv hvm hrv hm2 u1 u2 u4 u5 u6 a3
        by_cases hk : v.x.key = u.x.key
        · have e1 : (v.x.key.toList == u.x.key.toList) = true := by rw [hk]; simp
          have HK := hide2 hk
          clear hk
          cases hvl : v.x.look with
          | false =>
            rw [hvl] at v1
            have HV := hide2 hvl
            clear hvl
            have hfb : ¬ finI v.fin < (u.beg : Int) := fun h => by
              have := HHF.out.ahead v HVM.out HK.out (.inl HV.out) h
              rw [HHAD.out] at this; cases this
            have df : decide (finI v.fin < (u.beg : Int)) = false := decide_eq_false hfb
            have NX : Hid (∀ y ∈ l.take (m + 1), y.x.key = u.x.key → y.x.look = false → min z (v.beg : Int) ≤ (y.beg : Int)) := hide2 (by
              rw [HE.out]; intro y hy h1 h2
              rcases List.mem_append.1 hy with h3 | h3
              · have := hz.out y h3 h1 h2; omega
              · simp at h3; subst h3; omega)
            clear hcell
            go_wp2
            go_quiet (fail)
            go_wp2_with fail
            refine (HRV.out _).mono ?_
            rintro e w2 ⟨rfl, q2, hw2⟩
            subst hw2
            go_wp2
            go_quiet (fail)
            go_wp2
            go_roundw
            case rel => exact ⟨m + 1, _, min z (v.beg : Int), by omega, rfl, by go_num, NX, drew1 HWR.out⟩
            case measure => simp [intOf]; omega
          | true =>
            rw [hvl] at v1
            have HV := hide2 hvl
            clear hvl
            cases hvh : v.o.had with
            | true =>
              rw [hvh] at HRV
              have hfb : ¬ finI v.fin < (u.beg : Int) := fun h => by
                have := HHF.out.ahead v HVM.out HK.out (.inr hvh) h
                rw [HHAD.out] at this; cases this
              have df : decide (finI v.fin < (u.beg : Int)) = false := decide_eq_false hfb
              clear hvh
              have NX : Hid (∀ y ∈ l.take (m + 1), y.x.key = u.x.key → y.x.look = false → z ≤ (y.beg : Int)) := hide2 (by
                rw [HE.out]; intro y hy h1 h2
                rcases List.mem_append.1 hy with h3 | h3
                · exact hz.out y h3 h1 h2
                · simp at h3; subst h3; exact absurd (h2.symm.trans HV.out) (by decide))
              clear hcell
              go_wp2
              go_quiet (fail)
              go_wp2_with fail
              refine (HRV.out _).mono ?_
              rintro e w2 ⟨rfl, q2, hw2⟩
              subst hw2
              go_wp2
              go_quiet (fail)
              go_wp2
              go_roundw
              case rel => exact ⟨m + 1, _, z, by omega, rfl, by go_num, NX, drew1 HWR.out⟩
              case measure => simp [intOf]; omega
            | false =>
              rw [hvh] at HRV
              clear hvh
              have NX : Hid (∀ y ∈ l.take (m + 1), y.x.key = u.x.key → y.x.look = false → z ≤ (y.beg : Int)) := hide2 (by
                rw [HE.out]; intro y hy h1 h2
                rcases List.mem_append.1 hy with h3 | h3
                · exact hz.out y h3 h1 h2
                · simp at h3; subst h3; exact absurd (h2.symm.trans HV.out) (by decide))
              clear hcell
              go_wp2
              go_quiet (fail)
              go_wp2_with fail
              refine (HRV.out _).mono ?_
              rintro e w2 ⟨rfl, q2, hw2⟩
              subst hw2
              go_wp2
              go_quiet (fail)
              go_wp2
              go_roundw
              case rel => exact ⟨m + 1, _, z, by omega, rfl, by go_num, NX, drew1 HWR.out⟩
              case measure => simp [intOf]; omega
        · have e1 : (v.x.key.toList == u.x.key.toList) = false := by
            rw [beq_eq_false_iff_ne]; exact fun q => hk (toList_inj q)
          have HK := hide2 hk
          clear hk
          cases hvl : v.x.look with
          | false =>
            rw [hvl] at v1
            clear hvl
            have NX : Hid (∀ y ∈ l.take (m + 1), y.x.key = u.x.key → y.x.look = false → z ≤ (y.beg : Int)) := hide2 (by
              rw [HE.out]; intro y hy h1 h2
              rcases List.mem_append.1 hy with h3 | h3
              · exact hz.out y h3 h1 h2
              · simp at h3; subst h3; exact absurd h1 HK.out)
            clear hcell
            go_wp2
            go_quiet (fail)
            go_wp2_with fail
            refine (HRV.out _).mono ?_
            rintro e w2 ⟨rfl, q2, hw2⟩
            subst hw2
            go_wp2
            go_quiet (fail)
            go_wp2
            go_roundw
            case rel => exact ⟨m + 1, _, z, by omega, rfl, by go_num, NX, drew1 HWR.out⟩
            case measure => simp [intOf]; omega
          | true =>
            rw [hvl] at v1
            clear hvl
            have NX : Hid (∀ y ∈ l.take (m + 1), y.x.key = u.x.key → y.x.look = false → z ≤ (y.beg : Int)) := hide2 (by
              rw [HE.out]; intro y hy h1 h2
              rcases List.mem_append.1 hy with h3 | h3
              · exact hz.out y h3 h1 h2
              · simp at h3; subst h3; exact absurd h1 HK.out)
            clear hcell
            go_wp2
            go_quiet (fail)
            go_wp2_with fail
            refine (HRV.out _).mono ?_
            rintro e w2 ⟨rfl, q2, hw2⟩
            subst hw2
            go_wp2
            go_quiet (fail)
            go_wp2
            go_roundw
            case rel => exact ⟨m + 1, _, z, by omega, rfl, by go_num, NX, drew1 HWR.out⟩
            case measure => simp [intOf]; omega
      · obtain rfl : m = n := by omega
        have hmi : ¬ (m : Int) < (m : Int) := by omega
        clear hwr
        go_wp2
        go_ret
        exact ⟨rfl, _, HWR.out⟩
end

section
variable {w : World}

set_option maxRecDepth 100000 in
set_option maxHeartbeats 8000000 in
theorem fits_ff {lo io : Option Addr} {n lcap il ic P : Nat} {l : List Un} {ins : List AskR} {i : Nat} {u : Un} {tv : Value} (hl : Seq 7 Un.cells w lo n lcap l) (hin : Seq 4 AskR.cells w io il ic ins) (hops : ∀ v ∈ l, Om w v.b tv v.o ∧ v.o.st = 3) (hu : l[i]? = some u) (hP : P ≤ 10000) (hc : u.o.code = 0) (hF : Fits l u ins) (hhad : u.o.had = false) (hlk : u.x.look = false) :
    Calls Tryd.prog 19 #[.slice lo n lcap, .int .i64 i, .slice io il ic, .int .i64 P] w fun e w' => e = .returned (.bool true) ∧ ∃ q, w' = w.drewN q := by
  have hi : i < n := by have := (List.getElem?_eq_some_iff.1 hu).1; rw [hl.1] at this; exact this
  have hii : (i : Int) < (n : Int) := by omega
  have hcap := hl.2.1
  have hmax := hl.2.2.1
  have hicap := hin.2.1
  have himax := hin.2.2.1
  unfold maxLen at hmax himax
  have hum := List.mem_of_getElem? hu
  obtain ⟨b, off, rfl, hbl, hcell⟩ := hl.2.2.2 (by omega)
  have u1 : w.cell? ⟨b, off + i * 7 + 1, none⟩ = some (.bool false) := by rw [← hlk]; exact hcell i u hu 1 _ rfl
  have u2 : w.cell? ⟨b, off + i * 7 + 2, none⟩ = some (.string u.x.key) := hcell i u hu 2 _ rfl
  have u4 : w.cell? ⟨b, off + i * 7 + 4, none⟩ = some (.pointer (some ⟨u.b, 0, none⟩)) := hcell i u hu 4 _ rfl
  have u5 : w.cell? ⟨b, off + i * 7 + 5, none⟩ = some (.int .i64 (u.beg : Int)) := hcell i u hu 5 _ rfl
  have u6 : w.cell? ⟨b, off + i * 7 + 6, none⟩ = some (.int .i64 (finI u.fin)) := hcell i u hu 6 _ rfl
  have hrf := ref_any (hops u hum).1 (hops u hum).2
  rw [hhad, hc] at hrf
  have HRF := hide2 hrf
  have HFD : Hid (∀ q, Calls Tryd.prog 14 #[.slice io il ic, .string u.x.key] (w.drewN q) fun e w' => (∃ r : Int, e = .returned (.int .i64 r) ∧ Fd ins u.x.key r) ∧ w' = w.drewN q) := hide2 (fun q => find_any9 (hin.keep (below_drewN _ _ _)) u.x.key)
  have HL := hide2 hl
  have HIN := hide2 hin
  have HOPS : Hid (∀ v ∈ l, ∀ q, Calls Tryd.prog 12 #[.pointer (some ⟨v.b, 0, none⟩)] (w.drewN q) fun y w' => y = .returned (.tuple #[.int .i64 v.o.r, .bool v.o.had, .int .i64 v.o.code]) ∧ ∃ q2, w' = (w.drewN q).drewN q2) := hide2 (fun v hv q => ref_any ((hops v hv).1.fr (Fr.below (F := fun _ => False) (below_drewN _ _ _)) id) (hops v hv).2)
  have HHF := hide2 hF
  have HHAD := hide2 hhad
  have HLK := hide2 hlk
  have HCELL := hide2 hcell
  clear hrf hl hin hops hF hhad hlk hc hcell hum
  go_enter Tryd.func19, Tryd.ntmps19
  go_wp2_with fail
  refine HRF.out.mono ?_
  rintro e w1 ⟨rfl, q1, hw1⟩
  subst hw1
  clear HRF
  go_wp2_with fail
  refine (HFD.out _).mono ?_
  rintro e w2 ⟨⟨r, rfl, hr⟩, hw2⟩
  subst hw2
  clear HFD
  rcases hr with ⟨rfl, hno⟩ | ⟨j, a, rfl, hj, hjk⟩
  · have h9 := HHF.out.no hno
    first
      | exact absurd (h9.1.symm.trans HLK.out) (by decide)
      | exact absurd (h9.2.1.symm.trans HHAD.out) (by decide)
  · have hjl : j < il := by have := (List.getElem?_eq_some_iff.1 hj).1; rw [HIN.out.1] at this; exact this
    have hji : (j : Int) < (il : Int) := by omega
    have hj0 : ¬ (j : Int) < 0 := by omega
    obtain ⟨ib, ioff, rfl, -, icell⟩ := HIN.out.2.2.2 (by omega)
    have a3 : w.cell? ⟨ib, ioff + j * 4 + 3, none⟩ = some (.int .i64 a.ref) := icell j a hj 3 _ rfl
    have hra : u.o.r = a.ref := HHF.out.yes a (List.mem_of_getElem? hj) hjk (.inr HLK.out)
    have HRA := hide2 hra
    rw [← hra] at a3
    clear hra
    clear icell hj hjk
    go_wp2
    go_loopw [13, 14, 15, 16, 17, 18, 19] (fun f k _ _ _ _ _ wr => ∃ (m q : Nat) (z : Int), m ≤ n ∧ f = .int .i64 z ∧ k = .int .i64 m ∧ Hid (∀ v ∈ l.take m, v.x.key = u.x.key → v.x.look = false → z ≤ (v.beg : Int)) ∧ wr = w.drewN q) (fun _ k _ _ _ _ _ _ => n - (intOf k).toNat)
    case atStart => exact ⟨0, _, _, by omega, rfl, rfl, hide2 (fun v hv => by simp at hv), rfl⟩
    case round =>
      obtain ⟨m, q, z, hm, rfl, rfl, hz, hwr⟩ := hrel
      have HWR := hide2 hwr
      by_cases hml : m < n
      · have hmi : (m : Int) < (n : Int) := by omega
        obtain ⟨v, hv⟩ := some_at HL.out.1 hml
        have hvm := List.mem_of_getElem? hv
        have hcell := HCELL.out
        have v2 : wr.cell? ⟨b, off + m * 7 + 2, none⟩ = some (.string v.x.key) := by rw [hwr]; exact hcell m v hv 2 _ rfl
        have v4 : wr.cell? ⟨b, off + m * 7 + 4, none⟩ = some (.pointer (some ⟨v.b, 0, none⟩)) := by rw [hwr]; exact hcell m v hv 4 _ rfl
        have v5 : wr.cell? ⟨b, off + m * 7 + 5, none⟩ = some (.int .i64 (v.beg : Int)) := by rw [hwr]; exact hcell m v hv 5 _ rfl
        have v6 : wr.cell? ⟨b, off + m * 7 + 6, none⟩ = some (.int .i64 (finI v.fin)) := by rw [hwr]; exact hcell m v hv 6 _ rfl
        have x2 : wr.cell? ⟨b, off + i * 7 + 2, none⟩ = some (.string u.x.key) := by rw [hwr]; exact u2
        have x5 : wr.cell? ⟨b, off + i * 7 + 5, none⟩ = some (.int .i64 (u.beg : Int)) := by rw [hwr]; exact u5
        have hm2 : m < l.length := by rw [HL.out.1]; exact hml
        have hat : l[m] = v := by rw [List.getElem?_eq_getElem hm2] at hv; exact Option.some.inj hv
        have HE : Hid (l.take (m + 1) = l.take m ++ [v]) := hide2 (by rw [← List.take_append_getElem hm2, hat])
        have v1 : wr.cell? ⟨b, off + m * 7 + 1, none⟩ = some (.bool v.x.look) := by rw [hwr]; exact hcell m v hv 1 _ rfl
        have hrv : ∀ q2, Calls Tryd.prog 12 #[.pointer (some ⟨v.b, 0, none⟩)] (wr.drewN q2) fun y w' => y = .returned (.tuple #[.int .i64 v.o.r, .bool v.o.had, .int .i64 v.o.code]) ∧ ∃ q3, w' = (wr.drewN q2).drewN q3 := fun q2 => by
          rw [hwr, drewN_add]
          exact HOPS.out v hvm _
        have HRV := hide2 hrv
        have HVM := hide2 hvm
        clear hwr hat hv hvm hrv hm2 u1 u2 u4 u5 u6 a3
        by_cases hk : v.x.key = u.x.key
        · have e1 : (v.x.key.toList == u.x.key.toList) = true := by rw [hk]; simp
          have HK := hide2 hk
          clear hk
          cases hvl : v.x.look with
          | false =>
            rw [hvl] at v1
            have HV := hide2 hvl
            clear hvl
            have hfb : ¬ finI v.fin < (u.beg : Int) := fun h => by
              have := HHF.out.ahead v HVM.out HK.out (.inl HV.out) h
              rw [HHAD.out] at this; cases this
            have df : decide (finI v.fin < (u.beg : Int)) = false := decide_eq_false hfb
            have NX : Hid (∀ y ∈ l.take (m + 1), y.x.key = u.x.key → y.x.look = false → min z (v.beg : Int) ≤ (y.beg : Int)) := hide2 (by
              rw [HE.out]; intro y hy h1 h2
              rcases List.mem_append.1 hy with h3 | h3
              · have := hz.out y h3 h1 h2; omega
              · simp at h3; subst h3; omega)
            clear hcell
            go_wp2
            go_quiet (fail)
            go_wp2_with fail
            refine (HRV.out _).mono ?_
            rintro e w2 ⟨rfl, q2, hw2⟩
            subst hw2
            go_wp2
            go_quiet (fail)
            go_wp2
            go_roundw
            case rel => exact ⟨m + 1, _, min z (v.beg : Int), by omega, rfl, by go_num, NX, drew1 HWR.out⟩
            case measure => simp [intOf]; omega
          | true =>
            rw [hvl] at v1
            have HV := hide2 hvl
            clear hvl
            cases hvh : v.o.had with
            | true =>
              rw [hvh] at HRV
              have hfb : ¬ finI v.fin < (u.beg : Int) := fun h => by
                have := HHF.out.ahead v HVM.out HK.out (.inr hvh) h
                rw [HHAD.out] at this; cases this
              have df : decide (finI v.fin < (u.beg : Int)) = false := decide_eq_false hfb
              clear hvh
              have NX : Hid (∀ y ∈ l.take (m + 1), y.x.key = u.x.key → y.x.look = false → z ≤ (y.beg : Int)) := hide2 (by
                rw [HE.out]; intro y hy h1 h2
                rcases List.mem_append.1 hy with h3 | h3
                · exact hz.out y h3 h1 h2
                · simp at h3; subst h3; exact absurd (h2.symm.trans HV.out) (by decide))
              clear hcell
              go_wp2
              go_quiet (fail)
              go_wp2_with fail
              refine (HRV.out _).mono ?_
              rintro e w2 ⟨rfl, q2, hw2⟩
              subst hw2
              go_wp2
              go_quiet (fail)
              go_wp2
              go_roundw
              case rel => exact ⟨m + 1, _, z, by omega, rfl, by go_num, NX, drew1 HWR.out⟩
              case measure => simp [intOf]; omega
            | false =>
              rw [hvh] at HRV
              clear hvh
              have NX : Hid (∀ y ∈ l.take (m + 1), y.x.key = u.x.key → y.x.look = false → z ≤ (y.beg : Int)) := hide2 (by
                rw [HE.out]; intro y hy h1 h2
                rcases List.mem_append.1 hy with h3 | h3
                · exact hz.out y h3 h1 h2
                · simp at h3; subst h3; exact absurd (h2.symm.trans HV.out) (by decide))
              clear hcell
              go_wp2
              go_quiet (fail)
              go_wp2_with fail
              refine (HRV.out _).mono ?_
              rintro e w2 ⟨rfl, q2, hw2⟩
              subst hw2
              go_wp2
              go_quiet (fail)
              go_wp2
              go_roundw
              case rel => exact ⟨m + 1, _, z, by omega, rfl, by go_num, NX, drew1 HWR.out⟩
              case measure => simp [intOf]; omega
        · have e1 : (v.x.key.toList == u.x.key.toList) = false := by
            rw [beq_eq_false_iff_ne]; exact fun q => hk (toList_inj q)
          have HK := hide2 hk
          clear hk
          cases hvl : v.x.look with
          | false =>
            rw [hvl] at v1
            clear hvl
            have NX : Hid (∀ y ∈ l.take (m + 1), y.x.key = u.x.key → y.x.look = false → z ≤ (y.beg : Int)) := hide2 (by
              rw [HE.out]; intro y hy h1 h2
              rcases List.mem_append.1 hy with h3 | h3
              · exact hz.out y h3 h1 h2
              · simp at h3; subst h3; exact absurd h1 HK.out)
            clear hcell
            go_wp2
            go_quiet (fail)
            go_wp2_with fail
            refine (HRV.out _).mono ?_
            rintro e w2 ⟨rfl, q2, hw2⟩
            subst hw2
            go_wp2
            go_quiet (fail)
            go_wp2
            go_roundw
            case rel => exact ⟨m + 1, _, z, by omega, rfl, by go_num, NX, drew1 HWR.out⟩
            case measure => simp [intOf]; omega
          | true =>
            rw [hvl] at v1
            clear hvl
            have NX : Hid (∀ y ∈ l.take (m + 1), y.x.key = u.x.key → y.x.look = false → z ≤ (y.beg : Int)) := hide2 (by
              rw [HE.out]; intro y hy h1 h2
              rcases List.mem_append.1 hy with h3 | h3
              · exact hz.out y h3 h1 h2
              · simp at h3; subst h3; exact absurd h1 HK.out)
            clear hcell
            go_wp2
            go_quiet (fail)
            go_wp2_with fail
            refine (HRV.out _).mono ?_
            rintro e w2 ⟨rfl, q2, hw2⟩
            subst hw2
            go_wp2
            go_quiet (fail)
            go_wp2
            go_roundw
            case rel => exact ⟨m + 1, _, z, by omega, rfl, by go_num, NX, drew1 HWR.out⟩
            case measure => simp [intOf]; omega
      · obtain rfl : m = n := by omega
        have hmi : ¬ (m : Int) < (m : Int) := by omega
        clear hwr
        go_wp2
        go_ret
        exact ⟨rfl, _, HWR.out⟩
end

section
variable {w : World}

set_option maxRecDepth 100000 in
set_option maxHeartbeats 2000000 in
theorem fits_bad {lo io : Option Addr} {n lcap il ic P : Nat} {l : List Un} {i : Nat} {u : Un} {tv : Value} (hl : Seq 7 Un.cells w lo n lcap l) (hops : ∀ v ∈ l, Om w v.b tv v.o ∧ v.o.st = 3) (hu : l[i]? = some u) (hc : u.o.code = 90) :
    Calls Tryd.prog 19 #[.slice lo n lcap, .int .i64 i, .slice io il ic, .int .i64 P] w fun e w' => e = .returned (.bool true) ∧ ∃ q, w' = w.drewN q := by
  have hi : i < n := by have := (List.getElem?_eq_some_iff.1 hu).1; rw [hl.1] at this; exact this
  have hii : (i : Int) < (n : Int) := by omega
  have hcap := hl.2.1
  have hmax := hl.2.2.1
  unfold maxLen at hmax
  have hum := List.mem_of_getElem? hu
  obtain ⟨b, off, rfl, hbl, hcell⟩ := hl.2.2.2 (by omega)
  have u4 : w.cell? ⟨b, off + i * 7 + 4, none⟩ = some (.pointer (some ⟨u.b, 0, none⟩)) := hcell i u hu 4 _ rfl
  have hrf := ref_any (hops u hum).1 (hops u hum).2
  rw [hc] at hrf
  have HRF := hide2 hrf
  clear hrf hl hops hc hcell hum
  go_enter Tryd.func19, Tryd.ntmps19
  go_wp2_with fail
  refine HRF.out.mono ?_
  rintro e w1 ⟨rfl, q1, hw1⟩
  subst hw1
  go_wp2
  go_ret
  exact ⟨rfl, _, rfl⟩

theorem fits_any {lo io : Option Addr} {n lcap il ic P : Nat} {l : List Un} {ins : List AskR} {i : Nat} {u : Un} {tv : Value} (hl : Seq 7 Un.cells w lo n lcap l) (hin : Seq 4 AskR.cells w io il ic ins) (hops : ∀ v ∈ l, Om w v.b tv v.o ∧ v.o.st = 3) (hu : l[i]? = some u) (hP : P ≤ 10000) (hc : u.o.code = 90 ∨ u.o.code = 0 ∧ Fits l u ins) :
    Calls Tryd.prog 19 #[.slice lo n lcap, .int .i64 i, .slice io il ic, .int .i64 P] w fun e w' => e = .returned (.bool true) ∧ ∃ q, w' = w.drewN q := by
  rcases hc with hc | ⟨hc, hF⟩
  · exact fits_bad hl hops hu hc
  · cases h1 : u.o.had <;> cases h2 : u.x.look
    · exact fits_ff hl hin hops hu hP hc hF h1 h2
    · exact fits_ft hl hin hops hu hP hc hF h1 h2
    · exact fits_tf hl hin hops hu hP hc hF h1 h2
    · exact fits_tt hl hin hops hu hP hc hF h1 h2
end

theorem isKey_any2 (k : ByteArray) (w : World) : Calls Tryd.prog 15 #[.string k] w fun e w' => e = .returned (.bool (good k)) ∧ w' = w := by
  unfold good
  by_cases h1 : 1 ≤ k.size
  · by_cases h2 : k.size ≤ 16
    · have d1 : decide ((1 : Int) ≤ (k.size : Int)) = true := by simp; omega
      have d2 : decide ((k.size : Int) ≤ 16) = true := by simp; omega
      have e : (decide (1 ≤ k.size) && decide (k.size ≤ 16)) = true := by simp; omega
      rw [e]
      go_enter Tryd.func15, Tryd.ntmps15
      go_wp2
      go_ret
      exact ⟨rfl, rfl⟩
    · have d1 : decide ((1 : Int) ≤ (k.size : Int)) = true := by simp; omega
      have d2 : decide ((k.size : Int) ≤ 16) = false := by simp; omega
      have e : (decide (1 ≤ k.size) && decide (k.size ≤ 16)) = false := by simp; omega
      rw [e]
      go_enter Tryd.func15, Tryd.ntmps15
      go_wp2
      go_ret
      exact ⟨rfl, rfl⟩
  · have d1 : decide ((1 : Int) ≤ (k.size : Int)) = false := by simp; omega
    have e : (decide (1 ≤ k.size) && decide (k.size ≤ 16)) = false := by simp; omega
    rw [e]
    go_enter Tryd.func15, Tryd.ntmps15
    go_wp2
    go_ret
    exact ⟨rfl, rfl⟩

def Un.putB (u : Un) : Bool := good u.x.key && (!u.x.look && !u.o.had)
/-- The asks that put a key in, in their order. -/
def insOf (l : List Un) : List AskR := (l.filter Un.putB).map Un.x
theorem insOf_snoc (l : List Un) (u : Un) : insOf (l ++ [u]) = if u.putB = true then insOf l ++ [u.x] else insOf l := by
  unfold insOf
  rw [List.filter_append, List.map_append]
  split
  · rename_i h; rw [List.filter_cons_of_pos h]; rfl
  · rename_i h; rw [List.filter_cons_of_neg h]; simp
theorem mem_insOf {l : List Un} {a : AskR} : a ∈ insOf l ↔ ∃ u ∈ l, u.putB = true ∧ u.x = a := by
  unfold insOf
  simp only [List.mem_map, List.mem_filter]
  constructor
  · rintro ⟨u, ⟨h1, h2⟩, h3⟩; exact ⟨u, h1, h2, h3⟩
  · rintro ⟨u, h1, h2, h3⟩; exact ⟨u, ⟨h1, h2⟩, h3⟩
theorem putB_iff (u : Un) : u.putB = true ↔ good u.x.key = true ∧ u.x.look = false ∧ u.o.had = false := by
  unfold Un.putB; simp
theorem nodup_leB : ∀ (ss M : List (List UInt8)), ss.Nodup → (∀ x ∈ ss, x ∈ M) → ss.length ≤ M.length := by
  intro ss
  induction ss with
  | nil => intro M _ _; exact Nat.zero_le _
  | cons y ys ih =>
    intro M hn hs
    obtain ⟨n1, n2⟩ := List.nodup_cons.1 hn
    have hy := hs y (by simp)
    have := ih (M.erase y) n2 (fun x hx => (List.mem_erase_of_ne (fun q => n1 (by rw [← q]; exact hx))).2 (hs x (by simp [hx])))
    rw [List.length_erase_of_mem hy] at this
    have := List.length_pos_of_mem hy
    simp only [List.length_cons]
    omega

section
variable {s : Tb} {l : List Un} {now : Nat → Option Nat} {t : Nat}
theorem puts_of {u : Un} (hf : u.fin.isSome = true) (h : u.putB = true) : u.puts := by
  have := (putB_iff u).1 h
  exact ⟨hf, this.1, this.2.1, this.2.2⟩
theorem Ti.same (h : Ti s l now t) {u v : Un} (hu : u ∈ l) (hv : v ∈ l) (pu : u.puts) (pv : v.puts) (hk : u.x.key = v.x.key) : u = v := by
  obtain ⟨i, hi⟩ := List.mem_iff_getElem?.1 hu
  obtain ⟨j, hj⟩ := List.mem_iff_getElem?.1 hv
  have := h.uni i j u v hi hj pu pv hk
  subst this
  rw [hi] at hj
  exact Option.some.inj hj
theorem putB_of {u : Un} (h : u.puts) : u.putB = true := (putB_iff u).2 ⟨h.2.1, h.2.2.1, h.2.2.2⟩

theorem Ti.fits (h : Ti s l now t) (hf : ∀ u ∈ l, u.fin.isSome = true) {u : Un} (hu : u ∈ l) (hg : good u.x.key = true) : Fits l u (insOf l) := by
  have hfe := (h.one u hu).fed (hf u hu) hg
  refine ⟨fun hno => ?_, fun a ha hk hc => ?_, fun v hv hk hc hlt => ?_, fun hh => ?_⟩
  · have hh : u.o.had = false := by
      cases hq : u.o.had with
      | false => rfl
      | true =>
        obtain ⟨e, he, k1, r1⟩ := hfe.had hq
        obtain ⟨v, hv, pv, kv, rv⟩ := h.put e he
        exact absurd (kv.trans k1) (hno v.x (mem_insOf.2 ⟨v, hv, putB_of pv, rfl⟩))
    have hl : u.x.look = true := by
      cases hq : u.x.look with
      | true => rfl
      | false => exact absurd rfl (hno u.x (mem_insOf.2 ⟨u, hu, (putB_iff u).2 ⟨hg, hq, hh⟩, rfl⟩))
    exact ⟨hl, hh, hfe.miss hh hl⟩
  · obtain ⟨v, hv, pv, rfl⟩ := mem_insOf.1 ha
    have pv' := puts_of (hf v hv) pv
    cases hq : u.o.had with
    | true =>
      obtain ⟨e, he, k1, r1⟩ := hfe.had hq
      obtain ⟨v2, hv2, pv2, kv2, rv2⟩ := h.put e he
      have := h.same hv2 hv pv2 pv' (by rw [kv2, k1, hk])
      subst this
      rw [rv2, r1]
    | false =>
      have hl : u.x.look = false := by
        rcases hc with q | q
        · rw [hq] at q; cases q
        · exact q
      have := h.same hu hv ⟨hf u hu, hg, hl, hq⟩ pv' hk.symm
      subst this
      exact (hfe.put hq hl).1
  · cases hq : u.o.had with
    | true => rfl
    | false =>
      exfalso
      obtain ⟨a, ea⟩ := Option.isSome_iff_exists.1 (hf u hu)
      obtain ⟨b, eb⟩ := Option.isSome_iff_exists.1 (hf v hv)
      have h1 := h.ord u hu v hv a b ea eb hg hk.symm hq hc
      have h2 := ((h.one u hu).ed a ea).1
      rw [eb] at hlt
      simp only [finI] at hlt
      omega
  · obtain ⟨a, ea⟩ := Option.isSome_iff_exists.1 (hf u hu)
    obtain ⟨v, hv, k1, l1, b1⟩ := h.hb u hu a ea hg hh
    refine ⟨v, hv, k1, l1, ?_⟩
    rw [ea]
    simp only [finI]
    omega

theorem Ti.code (h : Ti s l now t) (hf : ∀ u ∈ l, u.fin.isSome = true) {u : Un} (hu : u ∈ l) : u.o.st = 3 ∧ u.o.code = if good u.x.key = true then 0 else 90 := by
  cases hg : good u.x.key with
  | true => have := (h.one u hu).fed (hf u hu) hg; exact ⟨this.st, this.code⟩
  | false => have := (h.one u hu).nfed (hf u hu) hg; exact this
theorem Ti.fits2 (h : Ti s l now t) (hf : ∀ u ∈ l, u.fin.isSome = true) {u : Un} (hu : u ∈ l) : u.o.code = 90 ∨ u.o.code = 0 ∧ Fits l u (insOf l) := by
  have := (h.code hf hu).2
  cases hg : good u.x.key with
  | true => rw [hg] at this; exact .inr ⟨this, h.fits hf hu hg⟩
  | false => rw [hg] at this; exact .inl this
/-- None of those ahead has put this one's key in. -/
theorem Ti.first (h : Ti s l now t) (hf : ∀ u ∈ l, u.fin.isSome = true) {m : Nat} {u : Un} (hm : l[m]? = some u) (hp : u.putB = true) {a : AskR} (ha : a ∈ insOf (l.take m)) : a.key ≠ u.x.key := by
  intro hk
  obtain ⟨v, hv, pv, rfl⟩ := mem_insOf.1 ha
  obtain ⟨i, hi⟩ := List.mem_iff_getElem?.1 hv
  have hil := (List.getElem?_eq_some_iff.1 hi).1
  rw [List.length_take] at hil
  have hi2 : l[i]? = some v := by rw [List.getElem?_take_of_lt (by omega)] at hi; exact hi
  have := h.uni i m v u hi2 hm (puts_of (hf v (List.mem_of_getElem? hi2)) pv) (puts_of (hf u (List.mem_of_getElem? hm)) hp) hk
  omega
theorem key_inj {a b : ByteArray} (h : a.data.toList = b.data.toList) : a = b := by
  cases a; cases b; simpa using h
theorem Ti.count (h : Ti s l now t) (hf : ∀ u ∈ l, u.fin.isSome = true) {ts : List (List UInt8)} (hn : ts.Nodup) (hm : ∀ x, x ∈ ts ↔ ∃ e ∈ s.all, kx e = x) : ts.length = (insOf l).length ∧ ∀ x ∈ ts, ∃ a ∈ insOf l, a.key.data.toList = x := by
  have h2 : ∀ x ∈ ts, ∃ a ∈ insOf l, a.key.data.toList = x := by
    intro x hx
    obtain ⟨e, he, rfl⟩ := (hm x).1 hx
    obtain ⟨v, hv, pv, kv, rv⟩ := h.put e he
    exact ⟨v.x, mem_insOf.2 ⟨v, hv, putB_of pv, rfl⟩, by rw [kv]; rfl⟩
  have h3 : ((insOf l).map fun a => a.key.data.toList).Nodup := by
    have hp : l.Pairwise (fun u v => u.puts → v.puts → u.x.key ≠ v.x.key) := by
      rw [List.pairwise_iff_getElem]
      intro i j hi hj hij pu pv hk
      have := h.uni i j _ _ (List.getElem?_eq_getElem hi) (List.getElem?_eq_getElem hj) pu pv hk
      omega
    unfold insOf
    rw [List.map_map]
    show List.Pairwise _ _
    rw [List.pairwise_map]
    refine List.Pairwise.imp_of_mem ?_ (hp.filter Un.putB)
    intro u v hu hv hr e
    obtain ⟨u1, u2⟩ := List.mem_filter.1 hu
    obtain ⟨v1, v2⟩ := List.mem_filter.1 hv
    exact hr (puts_of (hf u u1) u2) (puts_of (hf v v1) v2) (key_inj e)
  refine ⟨Nat.le_antisymm ?_ ?_, h2⟩
  · have := nodup_leB ts ((insOf l).map fun a => a.key.data.toList) hn (fun x hx => by
      obtain ⟨a, ha, e⟩ := h2 x hx
      exact List.mem_map.2 ⟨a, ha, e⟩)
    rw [List.length_map] at this
    exact this
  · have := nodup_leB _ ts h3 (fun x hx => by
      obtain ⟨a, ha, rfl⟩ := List.mem_map.1 hx
      obtain ⟨v, hv, pv, rfl⟩ := mem_insOf.1 ha
      have p := (putB_iff v).1 pv
      obtain ⟨_, e, he, k1, _⟩ := ((h.one v hv).fed (hf v hv) p.1).put p.2.2 p.2.1
      exact (hm _).2 ⟨e, he, by unfold kx; rw [k1]⟩)
    rw [List.length_map] at this
    exact this
theorem insOf_le (l : List Un) : (insOf l).length ≤ l.length := by
  unfold insOf
  rw [List.length_map]
  exact List.length_filter_le _ _
end

section
variable {w : World}

set_option maxRecDepth 100000 in
set_option maxHeartbeats 8000000 in
theorem together_nn (b : Int) {ao po : Option Addr} {len cap P pcap : Nat} {xs : List AskR} {ps : List Int} (hT : Tab w) (hs : Seq 4 AskR.cells w ao len cap xs) (hok : ∀ x ∈ xs, x.ok) (hp : Seq 1 ih w po P pcap ps) (hA : len ≤ 60) (hB : P ≤ 10000) :
    Calls Tryd.prog 4 #[.int .i64 b, .slice ao len cap, .slice po P pcap] w fun e w' => e = .returned (.bool true) ∧ Below w.heap.size w w' := by
  have hcap := hs.2.1
  have hmax := hs.2.2.1
  have hpcap := hp.2.1
  have hpmax := hp.2.2.1
  unfold maxLen at hmax hpmax
  have dA : ¬ (60 : Int) < (len : Int) := by omega
  have HSQ := hide2 hs
  have HOK := hide2 hok
  have dB : ¬ (10000 : Int) < (P : Int) := by omega
  have HPQ := hide2 hp
  have HS := hide2 (hshown_any hT)
  have HT0 := hide2 hT
  have hw0 := hT.1
  clear hT hs hok hp
  by_cases hb : b < 1 ∨ 256 < b
  · go_enter Tryd.func4, Tryd.ntmps4
    go_wp2_with fail
    refine HS.out.mono ?_
    rintro e w1 ⟨rfl, hb1⟩
    have HM := hide2 (made_arena (HT0.out.below hb1 hw0) 400 b (by decide) (by decide) (by omega))
    clear HS
    have HB1 := hide2 hb1
    have hs1 := hb1.size
    go_wp2_with fail
    refine HM.out.mono ?_
    rintro e w2 ⟨d, g, T, N, m, F, rfl, -, -, hb2⟩
    clear HM
    have hbb : Below w.heap.size w w2 := HB1.out.trans ⟨hb2.os, hb2.tape, hb2.output, hb2.size, fun j hj => hb2.block j (by omega)⟩
    rcases Decidable.em (b < 1) with hlt | hlt
    · clear hb
      have d1 : decide (b < 1) = true := decide_eq_true hlt
      go_wp2
      go_ret
      exact ⟨rfl, hbb⟩
    · have d1 : decide (b < 1) = false := decide_eq_false hlt
      have d2 : decide (256 < b) = true := decide_eq_true (by omega)
      clear hb
      go_wp2
      go_ret
      exact ⟨rfl, hbb⟩
  · obtain ⟨nb0, rfl⟩ : ∃ n : Nat, b = (n : Int) := ⟨b.toNat, by omega⟩
    have hn : 1 ≤ nb0 ∧ nb0 ≤ 256 := by omega
    clear hb
    go_enter Tryd.func4, Tryd.ntmps4
    go_wp2_with fail
    refine HS.out.mono ?_
    rintro e w1 ⟨rfl, hb1⟩
    have HM := hide2 (made_ok (HT0.out.below hb1 hw0) 400 nb0 (by decide) (by decide) hn.1 hn.2 (by omega))
    clear HS
    have HB1 := hide2 hb1
    have hs1 := hb1.size
    go_wp2_with fail
    refine HM.out.mono ?_
    rintro e w2 ⟨d, tb, K, rfl, h2, hK, hb2⟩
    clear HM
    have hbb : Below w.heap.size w w2 := HB1.out.trans ⟨hb2.os, hb2.tape, hb2.output, hb2.size, fun j hj => hb2.block j (by omega)⟩
    have HTG := hide2 (together_any h2 (fun j hj => by have := hK j hj; omega) hbb hw0 HSQ.out HOK.out (by omega) HPQ.out (by omega))
    clear h2 hK hb2 hbb hb1
    go_wp2_with fail
    refine HTG.out.mono ?_
    rintro e w3 ⟨K3, s3, l3, v3, ab, nb, at4, now4, rfl, hhd, L⟩
    clear HTG
    have HHD := hide2 hhd
    clear hhd
    obtain ⟨g1, g2, g3, g4⟩ := L.done
    obtain ⟨lo, lcap, ev3, hlq⟩ := un_seq L.tm.row
    subst ev3
    have HRW := hide2 L.tm.row
    have HLQ := hide2 hlq
    have HTI := hide2 L.ti
    have HG3 := hide2 g3
    have HOPS : Hid (∀ u ∈ l3, Om w3 u.b (tp tb) u.o ∧ u.o.st = 3) := hide2 (fun u hu => ⟨L.tm.ops u hu, (L.ti.code g3 hu).1⟩)
    have HHT := hide2 L.tm.ht
    have HBL := hide2 L.tm.bl
    have hl60 : l3.length ≤ 60 := by rw [g1, HSQ.out.1]; omega
    have hlcap := hlq.2.1
    have hlmax := hlq.2.2.1
    unfold maxLen at hlmax
    have hw3 : w.heap.size ≤ w3.heap.size := L.tm.bl.size
    obtain ⟨i0, hi0, z0, z1, z2⟩ := info_parts infoAsk
    clear L g1 g2 g3 g4 hlq
    go_wp2
    go_loopw [13, 14, 15, 16, 17, 18, 19] (fun vin k _ _ _ _ _ wr => ∃ m : Nat, m ≤ l3.length ∧ k = .int .i64 m ∧ Hid (Ar wr w3.heap.size vin (insOf (l3.take m))) ∧ Hid (Below w3.heap.size w3 wr)) (fun _ k _ _ _ _ _ _ => l3.length - (intOf k).toNat)
    case atStart => exact ⟨0, by omega, rfl, hide2 ⟨by simp [insOf], .inl ⟨rfl, by simp [insOf]⟩⟩, hide2 (Below.refl _ _)⟩
    case round =>
      obtain ⟨m, hm, rfl, hrow, hbl⟩ := hrel
      obtain ⟨vo, vc, ev, hiq⟩ := hrow.out.seq
      subst ev
      have hsz := hbl.out.size
      by_cases hml : m < l3.length
      · have hmi : (m : Int) < (l3.length : Int) := by omega
        obtain ⟨u, hu⟩ := some_at HLQ.out.1 hml
        have hum := List.mem_of_getElem? hu
        obtain ⟨b, off, eo, hbb, hcell⟩ := (HLQ.out.keep hbl.out).2.2.2 (by omega)
        subst eo
        have u0 : wr.cell? ⟨b, off + m * 7, none⟩ = some (.int .i64 u.x.w) := hcell m u hu 0 _ rfl
        have u1 : wr.cell? ⟨b, off + m * 7 + 1, none⟩ = some (.bool u.x.look) := hcell m u hu 1 _ rfl
        have u2 : wr.cell? ⟨b, off + m * 7 + 2, none⟩ = some (.string u.x.key) := hcell m u hu 2 _ rfl
        have u3 : wr.cell? ⟨b, off + m * 7 + 3, none⟩ = some (.int .i64 u.x.ref) := hcell m u hu 3 _ rfl
        have u4 : wr.cell? ⟨b, off + m * 7 + 4, none⟩ = some (.pointer (some ⟨u.b, 0, none⟩)) := hcell m u hu 4 _ rfl
        have hrf := ref_any ((HOPS.out u hum).1.fr (Fr.below (F := fun _ => False) hbl.out) id) (HOPS.out u hum).2
        rw [(HTI.out.code HG3.out hum).2] at hrf
        have HIK : Hid (∀ q, Calls Tryd.prog 15 #[.string u.x.key] (wr.drewN q) fun e w' => e = .returned (.bool (good u.x.key)) ∧ w' = wr.drewN q) := hide2 (fun q => isKey_any2 u.x.key _)
        have hm2 : m < l3.length := hml
        have hat : l3[m] = u := by rw [List.getElem?_eq_getElem hm2] at hu; exact Option.some.inj hu
        have hNX : insOf (l3.take (m + 1)) = if u.putB = true then insOf (l3.take m) ++ [u.x] else insOf (l3.take m) := by rw [← List.take_append_getElem hm2, hat, insOf_snoc]
        have HNX := hide2 hNX
        have HU := hide2 hu
        have HIQ := hide2 hiq
        have hil : (insOf (l3.take m)).length ≤ 60 := by have := insOf_le (l3.take m); rw [List.length_take] at this; omega
        clear hcell hat hNX hu hum hiq
        cases hg : good u.x.key with
        | false =>
          rw [hg] at hrf HIK
          have hrf2 : Calls Tryd.prog 12 #[.pointer (some ⟨u.b, 0, none⟩)] wr fun y w' => y = .returned (.tuple #[.int .i64 u.o.r, .bool u.o.had, .int .i64 90]) ∧ ∃ q, w' = wr.drewN q := hrf
          have HRF := hide2 hrf2
          have NX : Hid (insOf (l3.take (m + 1)) = insOf (l3.take m)) := hide2 (by rw [HNX.out, if_neg (by rw [putB_iff, hg]; simp)])
          clear hrf hrf2 hg
          go_wp2_with fail
          refine HRF.out.mono ?_
          rintro e w5 ⟨rfl, q5, hw5⟩
          subst hw5
          go_wp2_with fail
          refine (HIK.out _).mono ?_
          rintro e w6 ⟨rfl, hw6⟩
          subst hw6
          go_wp2
          go_roundw
          case rel => exact ⟨m + 1, by omega, by go_num, hide2 (by rw [NX.out]; exact hrow_fr hrow.out ((Fr.refl (fun _ => False) wr).drewN _) (fun _ _ => id)), hide2 (hbl.out.trans (below_drewN _ _ _))⟩
          case measure => simp [intOf]; omega
        | true =>
          rw [hg] at hrf HIK
          have hrf2 : Calls Tryd.prog 12 #[.pointer (some ⟨u.b, 0, none⟩)] wr fun y w' => y = .returned (.tuple #[.int .i64 u.o.r, .bool u.o.had, .int .i64 0]) ∧ ∃ q, w' = wr.drewN q := hrf
          clear hrf
          cases hlk : u.x.look with
          | true =>
            rw [hlk] at u1
            have HRF := hide2 hrf2
            have NX : Hid (insOf (l3.take (m + 1)) = insOf (l3.take m)) := hide2 (by rw [HNX.out, if_neg (by rw [putB_iff, hlk]; simp)])
            clear hrf2 hg hlk
            go_wp2_with fail
            refine HRF.out.mono ?_
            rintro e w5 ⟨rfl, q5, hw5⟩
            subst hw5
            go_wp2_with fail
            refine (HIK.out _).mono ?_
            rintro e w6 ⟨rfl, hw6⟩
            subst hw6
            go_wp2
            go_roundw
            case rel => exact ⟨m + 1, by omega, by go_num, hide2 (by rw [NX.out]; exact hrow_fr hrow.out ((Fr.refl (fun _ => False) wr).drewN _) (fun _ _ => id)), hide2 (hbl.out.trans (below_drewN _ _ _))⟩
            case measure => simp [intOf]; omega
          | false =>
            rw [hlk] at u1
            cases hhd : u.o.had with
            | true =>
              rw [hhd] at hrf2
              have HRF := hide2 hrf2
              have NX : Hid (insOf (l3.take (m + 1)) = insOf (l3.take m)) := hide2 (by rw [HNX.out, if_neg (by rw [putB_iff, hhd]; simp)])
              clear hrf2 hg hlk hhd
              go_wp2_with fail
              refine HRF.out.mono ?_
              rintro e w5 ⟨rfl, q5, hw5⟩
              subst hw5
              go_wp2_with fail
              refine (HIK.out _).mono ?_
              rintro e w6 ⟨rfl, hw6⟩
              subst hw6
              go_wp2
              go_roundw
              case rel => exact ⟨m + 1, by omega, by go_num, hide2 (by rw [NX.out]; exact hrow_fr hrow.out ((Fr.refl (fun _ => False) wr).drewN _) (fun _ _ => id)), hide2 (hbl.out.trans (below_drewN _ _ _))⟩
              case measure => simp [intOf]; omega
            | false =>
              rw [hhd] at hrf2
              have HRF := hide2 hrf2
              have hpb : u.putB = true := (putB_iff u).2 ⟨hg, hlk, hhd⟩
              have NX : Hid (insOf (l3.take (m + 1)) = insOf (l3.take m) ++ [u.x]) := hide2 (by rw [HNX.out, if_pos hpb])
              have HFST : Hid (∀ a ∈ insOf (l3.take m), a.key ≠ u.x.key) := hide2 (fun a ha => HTI.out.first HG3.out HU.out hpb ha)
              have HLK := hide2 hlk
              clear hrf2 hg hlk hhd hpb
              obtain ⟨ins, hins⟩ : ∃ y, y = insOf (l3.take m) := ⟨_, rfl⟩
              rw [← hins] at NX HFST hrow hil HIQ
              rw [← hins]
              clear HNX
              have HINS := hide2 hins
              clear hins
              go_wp2_with fail
              refine HRF.out.mono ?_
              rintro e w5 ⟨rfl, q5, hw5⟩
              have hF5 : Fr (fun _ => False) wr w5 := by rw [hw5]; exact (Fr.refl _ wr).drewN q5
              have hs5 : w5.heap.size = wr.heap.size := by rw [hw5]; rfl
              have x0 : w5.cell? ⟨b, off + m * 7, none⟩ = some (.int .i64 u.x.w) := by rw [hw5]; exact u0
              have x1 : w5.cell? ⟨b, off + m * 7 + 1, none⟩ = some (.bool false) := by rw [hw5]; exact u1
              have x2 : w5.cell? ⟨b, off + m * 7 + 2, none⟩ = some (.string u.x.key) := by rw [hw5]; exact u2
              have x3 : w5.cell? ⟨b, off + m * 7 + 3, none⟩ = some (.int .i64 u.x.ref) := by rw [hw5]; exact u3
              have hik := HIK.out q5
              rw [← hw5] at hik
              have HIK5 := hide2 hik
              have r5 : Ar w5 w3.heap.size (.slice vo ins.length vc) ins := hrow_fr hrow.out hF5 (fun _ _ => id)
              have hb5 : Below w3.heap.size w3 w5 := hbl.out.trans (by rw [hw5]; exact below_drewN _ _ _)
              have HFD := hide2 (find_any9 (HIQ.out.keep (by rw [hw5]; exact below_drewN _ _ _) : Seq 4 AskR.cells w5 vo ins.length vc ins) u.x.key)
              have HR5 := hide2 r5
              have HF5 := hide2 hF5
              have HS5 := hide2 hs5
              have HB5 := hide2 hb5
              clear HRF hw5 r5 hF5 hs5 hb5 hik HIK u0 u1 u2 u3 u4 hrow hbl HIQ
              go_wp2_with fail
              refine HIK5.out.mono ?_
              rintro e w6 ⟨rfl, hw6⟩
              subst hw6
              go_wp2_with fail
              refine HFD.out.mono ?_
              rintro e' w7 ⟨⟨r, rfl, hfd⟩, q7⟩
              subst q7
              have hr6 : r = -1 := by
                rcases hfd with h6 | ⟨i, a, h6, hai, hak⟩
                · exact h6.1
                · exact absurd hak (HFST.out a (List.mem_of_getElem? hai))
              subst hr6
              have hnew := ask_new w7 u.x
              rw [HLK.out] at hnew
              have HNEW := hide2 hnew
              clear hnew hfd HFD
              go_wp2_with (at_builtin; refine Hid.out ?_)
              refine hide2 ?_
              refine wpList_append_own_at _ rfl _ _ 22 rfl w3.heap.size 30 i0 (.agg #[.int .i64 0, .bool false, .string .empty, .int .i64 0]) 4 40 Tryd.underlying22 hi0 z0 z1 z2 rfl (by decide) (.slice vo ins.length vc) _ _ rfl (World.ownsRow.alloc HR5.out _) ⟨w7.heap.size, 0, none⟩ 1 1 [.int .i64 u.x.w, .bool false, .string u.x.key, .int .i64 u.x.ref] rfl rfl HNEW.out (by intro u hu; simp at hu; rcases hu with rfl | rfl | rfl | rfl <;> rfl) (by unfold maxLen; omega) (by omega) (by simp; have := HS5.out; omega) ?_
              intro v' w8 hown8 hgrow8 hat8 hb8
              obtain ⟨gt, capt, ev⟩ := hrow_succ hown8
              have hvlt : ∀ j, (Value.slice vo ins.length vc).ownBlock = some j → w3.heap.size ≤ j := fun j e => (World.ownsRow.lt HR5.out j e).1
              have hFa : Fr (fun _ => False) w7 (w7.alloc (.cells #[.int .i64 u.x.w, .bool false, .string u.x.key, .int .i64 u.x.ref] 30)) := (Fr.refl (fun _ => False) w7).alloc _
              have hF8 : Fr (fun j => (Value.slice vo ins.length vc).ownBlock = some j) w7 w8 := (hFa.mono (G := fun j => (Value.slice vo ins.length vc).ownBlock = some j) (fun _ _ e => e.elim)).trans (Fr.grown hgrow8 (fun j e => e)) (fun j e => .inl e)
              have hr8 : Ar w8 w3.heap.size v' (ins ++ [u.x]) := by
                unfold Ar
                have ec : u.x.cells = [.int .i64 u.x.w, .bool false, .string u.x.key, .int .i64 u.x.ref] := by unfold AskR.cells; rw [HLK.out]
                rw [List.length_append, List.length_singleton, List.flatMap_append, List.flatMap_singleton, ec]
                exact hown8
              have hB8 : Below w3.heap.size w3 w8 := HB5.out.trans (hF8.to (fun j hj e => by have := hvlt j e; omega) HB5.out.size)
              have HR8 := hide2 hr8
              have HB8 := hide2 hB8
              clear hown8 hgrow8 hat8 hb8 hFa hF8 hr8 hB8 hvlt HNEW HR5 HF5 HS5 HB5
              subst ev
              go_frame
              go_wp2
              go_roundw
              case rel => exact ⟨m + 1, by omega, by go_num, hide2 (by rw [NX.out]; exact HR8.out), HB8⟩
              case measure => simp [intOf]; omega
      · obtain rfl : m = l3.length := by omega
        have etk : l3.take l3.length = l3 := List.take_length
        rw [etk] at hiq hrow
        rw [etk]
        clear etk
        have hmi : ¬ (l3.length : Int) < (l3.length : Int) := by omega
        have HIQ := hide2 hiq
        clear hiq
        obtain ⟨nl, hnl⟩ : ∃ y, y = l3.length := ⟨_, rfl⟩
        have HNL := hide2 hnl
        have hnl60 : nl ≤ 60 := by omega
        have hnlc : nl ≤ lcap := by omega
        rw [← hnl]
        rw [← hnl] at hmi
        clear hnl hm hml hl60 hlcap
        obtain ⟨wq, hwq⟩ : ∃ y, y = wr := ⟨_, rfl⟩
        subst hwq
        go_wp2
        go_loopw [20, 21] (fun k _ wx => ∃ (m q : Nat), m ≤ nl ∧ k = .int .i64 m ∧ wx = wq.drewN q) (fun k _ _ => nl - (intOf k).toNat)
        case atStart => exact ⟨0, 0, by omega, rfl, rfl⟩
        case round =>
          obtain ⟨m, q, hm, rfl, hwx⟩ := hrel
          have hbx : Below w3.heap.size w3 wr := by rw [hwx]; exact hbl.out.trans (below_drewN _ _ _)
          by_cases hml : m < nl
          · have hmi : (m : Int) < (nl : Int) := by omega
            obtain ⟨u, hu⟩ := some_at (n := nl) (by rw [HNL.out]) hml
            have hl9 := HLQ.out.keep hbx
            rw [← HNL.out] at hl9
            have hi9 : Seq 4 AskR.cells wr vo (insOf l3).length vc (insOf l3) := by rw [hwx]; exact HIQ.out.keep (below_drewN _ _ _)
            have HFT := hide2 (fits_any (P := P) (tv := tp tb) hl9 hi9 (fun v hv => ⟨(HOPS.out v hv).1.fr (Fr.below (F := fun _ => False) hbx) id, (HOPS.out v hv).2⟩) hu (by omega) (HTI.out.fits2 HG3.out (List.mem_of_getElem? hu)))
            have HWX := hide2 hwx
            clear hwx hbx hl9 hi9 hu
            go_wp2_with fail
            refine HFT.out.mono ?_
            rintro e w9 ⟨rfl, q9, hw9⟩
            subst hw9
            go_wp2
            go_roundw
            case rel => exact ⟨m + 1, _, by omega, by go_num, drew1 HWX.out⟩
            case measure => simp [intOf]; omega
          · have hmi2 : ¬ (m : Int) < (nl : Int) := by omega
            have hht := HHT.out.mono hbx
            have HKY := hide2 hht.keys
            have hi9 : Seq 4 AskR.cells wr vo (insOf l3).length vc (insOf l3) := by rw [hwx]; exact HIQ.out.keep (below_drewN _ _ _)
            have hbw : Below w.heap.size w wr := HBL.out.trans ⟨hbx.os, hbx.tape, hbx.output, hbx.size, fun j hj => hbx.block j (by omega)⟩
            have HI9 := hide2 hi9
            have HBW := hide2 hbw
            clear hwx hbx hht hi9 hbw
            go_wp2_with fail
            refine HKY.out.mono ?_
            rintro e w4 ⟨v4, ts, rfl, hrw4, hp, hnd, hmem, hlen, hb4⟩
            obtain ⟨to, tc, ev4, hts⟩ := str_seq hrw4
            subst ev4
            obtain ⟨hct, hin⟩ := HTI.out.count HG3.out hnd hmem
            have HSO := hide2 (sorted_any9 hts (HI9.out.keep hb4) hct hin hp hnd)
            have hb5 : Below w.heap.size w w4 := HBW.out.trans ⟨hb4.os, hb4.tape, hb4.output, hb4.size, fun j hj => hb4.block j (by have := HBW.out.size; omega)⟩
            have HB5 := hide2 hb5
            clear HKY hrw4 hp hnd hmem hlen hb4 hts hct hin hb5
            go_wp2_with fail
            refine HSO.out.mono ?_
            rintro e w9 ⟨rfl, q9, hw9⟩
            subst hw9
            go_wp2
            go_ret
            exact ⟨rfl, HB5.out.trans (below_drewN _ _ _)⟩

set_option maxRecDepth 100000 in
set_option maxHeartbeats 8000000 in
theorem together_nc (b : Int) {ao po : Option Addr} {len cap P pcap : Nat} {xs : List AskR} {ps : List Int} (hT : Tab w) (hs : Seq 4 AskR.cells w ao len cap xs) (hok : ∀ x ∈ xs, x.ok) (hp : Seq 1 ih w po P pcap ps) (hA : len ≤ 60) (hB : 10000 < P) :
    Calls Tryd.prog 4 #[.int .i64 b, .slice ao len cap, .slice po P pcap] w fun e w' => e = .returned (.bool true) ∧ Below w.heap.size w w' := by
  have hcap := hs.2.1
  have hmax := hs.2.2.1
  have hpcap := hp.2.1
  have hpmax := hp.2.2.1
  unfold maxLen at hmax hpmax
  have dA : ¬ (60 : Int) < (len : Int) := by omega
  have HSQ := hide2 hs
  have HOK := hide2 hok
  obtain ⟨pb, poff, rfl, -, -⟩ := hp.2.2.2 (by omega)
  have dB : (10000 : Int) < (P : Int) := by omega
  obtain ⟨slB, sqB⟩ := seq_upto (P := Tryd.prog) hp 43 3 Tryd.underlying43 size_int 10000 (by omega) (by decide)
  have slB2 : ∀ u : World, (Instr.slice 43 (.slice (some ⟨pb, poff, none⟩) P pcap) none (some (.int .i64 10000)) none).run Tryd.prog u = .ok (.slice (some ⟨pb, poff, none⟩) 10000 pcap) u := slB
  have HPQ := hide2 sqB
  clear slB sqB
  have HS := hide2 (hshown_any hT)
  have HT0 := hide2 hT
  have hw0 := hT.1
  clear hT hs hok hp
  by_cases hb : b < 1 ∨ 256 < b
  · go_enter Tryd.func4, Tryd.ntmps4
    go_wp2_with fail
    refine HS.out.mono ?_
    rintro e w1 ⟨rfl, hb1⟩
    have HM := hide2 (made_arena (HT0.out.below hb1 hw0) 400 b (by decide) (by decide) (by omega))
    clear HS
    have HB1 := hide2 hb1
    have hs1 := hb1.size
    go_wp2_with fail
    refine HM.out.mono ?_
    rintro e w2 ⟨d, g, T, N, m, F, rfl, -, -, hb2⟩
    clear HM
    have hbb : Below w.heap.size w w2 := HB1.out.trans ⟨hb2.os, hb2.tape, hb2.output, hb2.size, fun j hj => hb2.block j (by omega)⟩
    rcases Decidable.em (b < 1) with hlt | hlt
    · clear hb
      have d1 : decide (b < 1) = true := decide_eq_true hlt
      go_wp2
      go_ret
      exact ⟨rfl, hbb⟩
    · have d1 : decide (b < 1) = false := decide_eq_false hlt
      have d2 : decide (256 < b) = true := decide_eq_true (by omega)
      clear hb
      go_wp2
      go_ret
      exact ⟨rfl, hbb⟩
  · obtain ⟨nb0, rfl⟩ : ∃ n : Nat, b = (n : Int) := ⟨b.toNat, by omega⟩
    have hn : 1 ≤ nb0 ∧ nb0 ≤ 256 := by omega
    clear hb
    go_enter Tryd.func4, Tryd.ntmps4
    go_wp2_with fail
    refine HS.out.mono ?_
    rintro e w1 ⟨rfl, hb1⟩
    have HM := hide2 (made_ok (HT0.out.below hb1 hw0) 400 nb0 (by decide) (by decide) hn.1 hn.2 (by omega))
    clear HS
    have HB1 := hide2 hb1
    have hs1 := hb1.size
    go_wp2_with fail
    refine HM.out.mono ?_
    rintro e w2 ⟨d, tb, K, rfl, h2, hK, hb2⟩
    clear HM
    have hbb : Below w.heap.size w w2 := HB1.out.trans ⟨hb2.os, hb2.tape, hb2.output, hb2.size, fun j hj => hb2.block j (by omega)⟩
    have HTG := hide2 (together_any h2 (fun j hj => by have := hK j hj; omega) hbb hw0 HSQ.out HOK.out (by omega) HPQ.out (by omega))
    clear h2 hK hb2 hbb hb1
    go_wp2_with fail
    refine HTG.out.mono ?_
    rintro e w3 ⟨K3, s3, l3, v3, ab, nb, at4, now4, rfl, hhd, L⟩
    clear HTG
    have HHD := hide2 hhd
    clear hhd
    obtain ⟨g1, g2, g3, g4⟩ := L.done
    obtain ⟨lo, lcap, ev3, hlq⟩ := un_seq L.tm.row
    subst ev3
    have HRW := hide2 L.tm.row
    have HLQ := hide2 hlq
    have HTI := hide2 L.ti
    have HG3 := hide2 g3
    have HOPS : Hid (∀ u ∈ l3, Om w3 u.b (tp tb) u.o ∧ u.o.st = 3) := hide2 (fun u hu => ⟨L.tm.ops u hu, (L.ti.code g3 hu).1⟩)
    have HHT := hide2 L.tm.ht
    have HBL := hide2 L.tm.bl
    have hl60 : l3.length ≤ 60 := by rw [g1, HSQ.out.1]; omega
    have hlcap := hlq.2.1
    have hlmax := hlq.2.2.1
    unfold maxLen at hlmax
    have hw3 : w.heap.size ≤ w3.heap.size := L.tm.bl.size
    obtain ⟨i0, hi0, z0, z1, z2⟩ := info_parts infoAsk
    clear L g1 g2 g3 g4 hlq
    go_wp2
    go_loopw [13, 14, 15, 16, 17, 18, 19] (fun vin k _ _ _ _ _ wr => ∃ m : Nat, m ≤ l3.length ∧ k = .int .i64 m ∧ Hid (Ar wr w3.heap.size vin (insOf (l3.take m))) ∧ Hid (Below w3.heap.size w3 wr)) (fun _ k _ _ _ _ _ _ => l3.length - (intOf k).toNat)
    case atStart => exact ⟨0, by omega, rfl, hide2 ⟨by simp [insOf], .inl ⟨rfl, by simp [insOf]⟩⟩, hide2 (Below.refl _ _)⟩
    case round =>
      obtain ⟨m, hm, rfl, hrow, hbl⟩ := hrel
      obtain ⟨vo, vc, ev, hiq⟩ := hrow.out.seq
      subst ev
      have hsz := hbl.out.size
      by_cases hml : m < l3.length
      · have hmi : (m : Int) < (l3.length : Int) := by omega
        obtain ⟨u, hu⟩ := some_at HLQ.out.1 hml
        have hum := List.mem_of_getElem? hu
        obtain ⟨b, off, eo, hbb, hcell⟩ := (HLQ.out.keep hbl.out).2.2.2 (by omega)
        subst eo
        have u0 : wr.cell? ⟨b, off + m * 7, none⟩ = some (.int .i64 u.x.w) := hcell m u hu 0 _ rfl
        have u1 : wr.cell? ⟨b, off + m * 7 + 1, none⟩ = some (.bool u.x.look) := hcell m u hu 1 _ rfl
        have u2 : wr.cell? ⟨b, off + m * 7 + 2, none⟩ = some (.string u.x.key) := hcell m u hu 2 _ rfl
        have u3 : wr.cell? ⟨b, off + m * 7 + 3, none⟩ = some (.int .i64 u.x.ref) := hcell m u hu 3 _ rfl
        have u4 : wr.cell? ⟨b, off + m * 7 + 4, none⟩ = some (.pointer (some ⟨u.b, 0, none⟩)) := hcell m u hu 4 _ rfl
        have hrf := ref_any ((HOPS.out u hum).1.fr (Fr.below (F := fun _ => False) hbl.out) id) (HOPS.out u hum).2
        rw [(HTI.out.code HG3.out hum).2] at hrf
        have HIK : Hid (∀ q, Calls Tryd.prog 15 #[.string u.x.key] (wr.drewN q) fun e w' => e = .returned (.bool (good u.x.key)) ∧ w' = wr.drewN q) := hide2 (fun q => isKey_any2 u.x.key _)
        have hm2 : m < l3.length := hml
        have hat : l3[m] = u := by rw [List.getElem?_eq_getElem hm2] at hu; exact Option.some.inj hu
        have hNX : insOf (l3.take (m + 1)) = if u.putB = true then insOf (l3.take m) ++ [u.x] else insOf (l3.take m) := by rw [← List.take_append_getElem hm2, hat, insOf_snoc]
        have HNX := hide2 hNX
        have HU := hide2 hu
        have HIQ := hide2 hiq
        have hil : (insOf (l3.take m)).length ≤ 60 := by have := insOf_le (l3.take m); rw [List.length_take] at this; omega
        clear hcell hat hNX hu hum hiq
        cases hg : good u.x.key with
        | false =>
          rw [hg] at hrf HIK
          have hrf2 : Calls Tryd.prog 12 #[.pointer (some ⟨u.b, 0, none⟩)] wr fun y w' => y = .returned (.tuple #[.int .i64 u.o.r, .bool u.o.had, .int .i64 90]) ∧ ∃ q, w' = wr.drewN q := hrf
          have HRF := hide2 hrf2
          have NX : Hid (insOf (l3.take (m + 1)) = insOf (l3.take m)) := hide2 (by rw [HNX.out, if_neg (by rw [putB_iff, hg]; simp)])
          clear hrf hrf2 hg
          go_wp2_with fail
          refine HRF.out.mono ?_
          rintro e w5 ⟨rfl, q5, hw5⟩
          subst hw5
          go_wp2_with fail
          refine (HIK.out _).mono ?_
          rintro e w6 ⟨rfl, hw6⟩
          subst hw6
          go_wp2
          go_roundw
          case rel => exact ⟨m + 1, by omega, by go_num, hide2 (by rw [NX.out]; exact hrow_fr hrow.out ((Fr.refl (fun _ => False) wr).drewN _) (fun _ _ => id)), hide2 (hbl.out.trans (below_drewN _ _ _))⟩
          case measure => simp [intOf]; omega
        | true =>
          rw [hg] at hrf HIK
          have hrf2 : Calls Tryd.prog 12 #[.pointer (some ⟨u.b, 0, none⟩)] wr fun y w' => y = .returned (.tuple #[.int .i64 u.o.r, .bool u.o.had, .int .i64 0]) ∧ ∃ q, w' = wr.drewN q := hrf
          clear hrf
          cases hlk : u.x.look with
          | true =>
            rw [hlk] at u1
            have HRF := hide2 hrf2
            have NX : Hid (insOf (l3.take (m + 1)) = insOf (l3.take m)) := hide2 (by rw [HNX.out, if_neg (by rw [putB_iff, hlk]; simp)])
            clear hrf2 hg hlk
            go_wp2_with fail
            refine HRF.out.mono ?_
            rintro e w5 ⟨rfl, q5, hw5⟩
            subst hw5
            go_wp2_with fail
            refine (HIK.out _).mono ?_
            rintro e w6 ⟨rfl, hw6⟩
            subst hw6
            go_wp2
            go_roundw
            case rel => exact ⟨m + 1, by omega, by go_num, hide2 (by rw [NX.out]; exact hrow_fr hrow.out ((Fr.refl (fun _ => False) wr).drewN _) (fun _ _ => id)), hide2 (hbl.out.trans (below_drewN _ _ _))⟩
            case measure => simp [intOf]; omega
          | false =>
            rw [hlk] at u1
            cases hhd : u.o.had with
            | true =>
              rw [hhd] at hrf2
              have HRF := hide2 hrf2
              have NX : Hid (insOf (l3.take (m + 1)) = insOf (l3.take m)) := hide2 (by rw [HNX.out, if_neg (by rw [putB_iff, hhd]; simp)])
              clear hrf2 hg hlk hhd
              go_wp2_with fail
              refine HRF.out.mono ?_
              rintro e w5 ⟨rfl, q5, hw5⟩
              subst hw5
              go_wp2_with fail
              refine (HIK.out _).mono ?_
              rintro e w6 ⟨rfl, hw6⟩
              subst hw6
              go_wp2
              go_roundw
              case rel => exact ⟨m + 1, by omega, by go_num, hide2 (by rw [NX.out]; exact hrow_fr hrow.out ((Fr.refl (fun _ => False) wr).drewN _) (fun _ _ => id)), hide2 (hbl.out.trans (below_drewN _ _ _))⟩
              case measure => simp [intOf]; omega
            | false =>
              rw [hhd] at hrf2
              have HRF := hide2 hrf2
              have hpb : u.putB = true := (putB_iff u).2 ⟨hg, hlk, hhd⟩
              have NX : Hid (insOf (l3.take (m + 1)) = insOf (l3.take m) ++ [u.x]) := hide2 (by rw [HNX.out, if_pos hpb])
              have HFST : Hid (∀ a ∈ insOf (l3.take m), a.key ≠ u.x.key) := hide2 (fun a ha => HTI.out.first HG3.out HU.out hpb ha)
              have HLK := hide2 hlk
              clear hrf2 hg hlk hhd hpb
              obtain ⟨ins, hins⟩ : ∃ y, y = insOf (l3.take m) := ⟨_, rfl⟩
              rw [← hins] at NX HFST hrow hil HIQ
              rw [← hins]
              clear HNX
              have HINS := hide2 hins
              clear hins
              go_wp2_with fail
              refine HRF.out.mono ?_
              rintro e w5 ⟨rfl, q5, hw5⟩
              have hF5 : Fr (fun _ => False) wr w5 := by rw [hw5]; exact (Fr.refl _ wr).drewN q5
              have hs5 : w5.heap.size = wr.heap.size := by rw [hw5]; rfl
              have x0 : w5.cell? ⟨b, off + m * 7, none⟩ = some (.int .i64 u.x.w) := by rw [hw5]; exact u0
              have x1 : w5.cell? ⟨b, off + m * 7 + 1, none⟩ = some (.bool false) := by rw [hw5]; exact u1
              have x2 : w5.cell? ⟨b, off + m * 7 + 2, none⟩ = some (.string u.x.key) := by rw [hw5]; exact u2
              have x3 : w5.cell? ⟨b, off + m * 7 + 3, none⟩ = some (.int .i64 u.x.ref) := by rw [hw5]; exact u3
              have hik := HIK.out q5
              rw [← hw5] at hik
              have HIK5 := hide2 hik
              have r5 : Ar w5 w3.heap.size (.slice vo ins.length vc) ins := hrow_fr hrow.out hF5 (fun _ _ => id)
              have hb5 : Below w3.heap.size w3 w5 := hbl.out.trans (by rw [hw5]; exact below_drewN _ _ _)
              have HFD := hide2 (find_any9 (HIQ.out.keep (by rw [hw5]; exact below_drewN _ _ _) : Seq 4 AskR.cells w5 vo ins.length vc ins) u.x.key)
              have HR5 := hide2 r5
              have HF5 := hide2 hF5
              have HS5 := hide2 hs5
              have HB5 := hide2 hb5
              clear HRF hw5 r5 hF5 hs5 hb5 hik HIK u0 u1 u2 u3 u4 hrow hbl HIQ
              go_wp2_with fail
              refine HIK5.out.mono ?_
              rintro e w6 ⟨rfl, hw6⟩
              subst hw6
              go_wp2_with fail
              refine HFD.out.mono ?_
              rintro e' w7 ⟨⟨r, rfl, hfd⟩, q7⟩
              subst q7
              have hr6 : r = -1 := by
                rcases hfd with h6 | ⟨i, a, h6, hai, hak⟩
                · exact h6.1
                · exact absurd hak (HFST.out a (List.mem_of_getElem? hai))
              subst hr6
              have hnew := ask_new w7 u.x
              rw [HLK.out] at hnew
              have HNEW := hide2 hnew
              clear hnew hfd HFD
              go_wp2_with (at_builtin; refine Hid.out ?_)
              refine hide2 ?_
              refine wpList_append_own_at _ rfl _ _ 22 rfl w3.heap.size 30 i0 (.agg #[.int .i64 0, .bool false, .string .empty, .int .i64 0]) 4 40 Tryd.underlying22 hi0 z0 z1 z2 rfl (by decide) (.slice vo ins.length vc) _ _ rfl (World.ownsRow.alloc HR5.out _) ⟨w7.heap.size, 0, none⟩ 1 1 [.int .i64 u.x.w, .bool false, .string u.x.key, .int .i64 u.x.ref] rfl rfl HNEW.out (by intro u hu; simp at hu; rcases hu with rfl | rfl | rfl | rfl <;> rfl) (by unfold maxLen; omega) (by omega) (by simp; have := HS5.out; omega) ?_
              intro v' w8 hown8 hgrow8 hat8 hb8
              obtain ⟨gt, capt, ev⟩ := hrow_succ hown8
              have hvlt : ∀ j, (Value.slice vo ins.length vc).ownBlock = some j → w3.heap.size ≤ j := fun j e => (World.ownsRow.lt HR5.out j e).1
              have hFa : Fr (fun _ => False) w7 (w7.alloc (.cells #[.int .i64 u.x.w, .bool false, .string u.x.key, .int .i64 u.x.ref] 30)) := (Fr.refl (fun _ => False) w7).alloc _
              have hF8 : Fr (fun j => (Value.slice vo ins.length vc).ownBlock = some j) w7 w8 := (hFa.mono (G := fun j => (Value.slice vo ins.length vc).ownBlock = some j) (fun _ _ e => e.elim)).trans (Fr.grown hgrow8 (fun j e => e)) (fun j e => .inl e)
              have hr8 : Ar w8 w3.heap.size v' (ins ++ [u.x]) := by
                unfold Ar
                have ec : u.x.cells = [.int .i64 u.x.w, .bool false, .string u.x.key, .int .i64 u.x.ref] := by unfold AskR.cells; rw [HLK.out]
                rw [List.length_append, List.length_singleton, List.flatMap_append, List.flatMap_singleton, ec]
                exact hown8
              have hB8 : Below w3.heap.size w3 w8 := HB5.out.trans (hF8.to (fun j hj e => by have := hvlt j e; omega) HB5.out.size)
              have HR8 := hide2 hr8
              have HB8 := hide2 hB8
              clear hown8 hgrow8 hat8 hb8 hFa hF8 hr8 hB8 hvlt HNEW HR5 HF5 HS5 HB5
              subst ev
              go_frame
              go_wp2
              go_roundw
              case rel => exact ⟨m + 1, by omega, by go_num, hide2 (by rw [NX.out]; exact HR8.out), HB8⟩
              case measure => simp [intOf]; omega
      · obtain rfl : m = l3.length := by omega
        have etk : l3.take l3.length = l3 := List.take_length
        rw [etk] at hiq hrow
        rw [etk]
        clear etk
        have hmi : ¬ (l3.length : Int) < (l3.length : Int) := by omega
        have HIQ := hide2 hiq
        clear hiq
        obtain ⟨nl, hnl⟩ : ∃ y, y = l3.length := ⟨_, rfl⟩
        have HNL := hide2 hnl
        have hnl60 : nl ≤ 60 := by omega
        have hnlc : nl ≤ lcap := by omega
        rw [← hnl]
        rw [← hnl] at hmi
        clear hnl hm hml hl60 hlcap
        obtain ⟨wq, hwq⟩ : ∃ y, y = wr := ⟨_, rfl⟩
        subst hwq
        go_wp2
        go_loopw [20, 21] (fun k _ wx => ∃ (m q : Nat), m ≤ nl ∧ k = .int .i64 m ∧ wx = wq.drewN q) (fun k _ _ => nl - (intOf k).toNat)
        case atStart => exact ⟨0, 0, by omega, rfl, rfl⟩
        case round =>
          obtain ⟨m, q, hm, rfl, hwx⟩ := hrel
          have hbx : Below w3.heap.size w3 wr := by rw [hwx]; exact hbl.out.trans (below_drewN _ _ _)
          by_cases hml : m < nl
          · have hmi : (m : Int) < (nl : Int) := by omega
            obtain ⟨u, hu⟩ := some_at (n := nl) (by rw [HNL.out]) hml
            have hl9 := HLQ.out.keep hbx
            rw [← HNL.out] at hl9
            have hi9 : Seq 4 AskR.cells wr vo (insOf l3).length vc (insOf l3) := by rw [hwx]; exact HIQ.out.keep (below_drewN _ _ _)
            have HFT := hide2 (fits_any (P := 10000) (tv := tp tb) hl9 hi9 (fun v hv => ⟨(HOPS.out v hv).1.fr (Fr.below (F := fun _ => False) hbx) id, (HOPS.out v hv).2⟩) hu (by omega) (HTI.out.fits2 HG3.out (List.mem_of_getElem? hu)))
            have HWX := hide2 hwx
            clear hwx hbx hl9 hi9 hu
            go_wp2_with fail
            refine HFT.out.mono ?_
            rintro e w9 ⟨rfl, q9, hw9⟩
            subst hw9
            go_wp2
            go_roundw
            case rel => exact ⟨m + 1, _, by omega, by go_num, drew1 HWX.out⟩
            case measure => simp [intOf]; omega
          · have hmi2 : ¬ (m : Int) < (nl : Int) := by omega
            have hht := HHT.out.mono hbx
            have HKY := hide2 hht.keys
            have hi9 : Seq 4 AskR.cells wr vo (insOf l3).length vc (insOf l3) := by rw [hwx]; exact HIQ.out.keep (below_drewN _ _ _)
            have hbw : Below w.heap.size w wr := HBL.out.trans ⟨hbx.os, hbx.tape, hbx.output, hbx.size, fun j hj => hbx.block j (by omega)⟩
            have HI9 := hide2 hi9
            have HBW := hide2 hbw
            clear hwx hbx hht hi9 hbw
            go_wp2_with fail
            refine HKY.out.mono ?_
            rintro e w4 ⟨v4, ts, rfl, hrw4, hp, hnd, hmem, hlen, hb4⟩
            obtain ⟨to, tc, ev4, hts⟩ := str_seq hrw4
            subst ev4
            obtain ⟨hct, hin⟩ := HTI.out.count HG3.out hnd hmem
            have HSO := hide2 (sorted_any9 hts (HI9.out.keep hb4) hct hin hp hnd)
            have hb5 : Below w.heap.size w w4 := HBW.out.trans ⟨hb4.os, hb4.tape, hb4.output, hb4.size, fun j hj => hb4.block j (by have := HBW.out.size; omega)⟩
            have HB5 := hide2 hb5
            clear HKY hrw4 hp hnd hmem hlen hb4 hts hct hin hb5
            go_wp2_with fail
            refine HSO.out.mono ?_
            rintro e w9 ⟨rfl, q9, hw9⟩
            subst hw9
            go_wp2
            go_ret
            exact ⟨rfl, HB5.out.trans (below_drewN _ _ _)⟩

set_option maxRecDepth 100000 in
set_option maxHeartbeats 8000000 in
theorem together_cn (b : Int) {ao po : Option Addr} {len cap P pcap : Nat} {xs : List AskR} {ps : List Int} (hT : Tab w) (hs : Seq 4 AskR.cells w ao len cap xs) (hok : ∀ x ∈ xs, x.ok) (hp : Seq 1 ih w po P pcap ps) (hA : 60 < len) (hB : P ≤ 10000) :
    Calls Tryd.prog 4 #[.int .i64 b, .slice ao len cap, .slice po P pcap] w fun e w' => e = .returned (.bool true) ∧ Below w.heap.size w w' := by
  have hcap := hs.2.1
  have hmax := hs.2.2.1
  have hpcap := hp.2.1
  have hpmax := hp.2.2.1
  unfold maxLen at hmax hpmax
  obtain ⟨xb, xoff, rfl, -, -⟩ := hs.2.2.2 (by omega)
  have dA : (60 : Int) < (len : Int) := by omega
  obtain ⟨slA, sqA⟩ := seq_upto (P := Tryd.prog) hs 22 30 Tryd.underlying22 size_ask 60 (by omega) (by decide)
  have slA2 : ∀ u : World, (Instr.slice 22 (.slice (some ⟨xb, xoff, none⟩) len cap) none (some (.int .i64 60)) none).run Tryd.prog u = .ok (.slice (some ⟨xb, xoff, none⟩) 60 cap) u := slA
  have HSQ := hide2 sqA
  have HOK : Hid (∀ x ∈ xs.take 60, x.ok) := hide2 (fun x hx => hok x (List.mem_of_mem_take hx))
  clear slA sqA
  have dB : ¬ (10000 : Int) < (P : Int) := by omega
  have HPQ := hide2 hp
  have HS := hide2 (hshown_any hT)
  have HT0 := hide2 hT
  have hw0 := hT.1
  clear hT hs hok hp
  by_cases hb : b < 1 ∨ 256 < b
  · go_enter Tryd.func4, Tryd.ntmps4
    go_wp2_with fail
    refine HS.out.mono ?_
    rintro e w1 ⟨rfl, hb1⟩
    have HM := hide2 (made_arena (HT0.out.below hb1 hw0) 400 b (by decide) (by decide) (by omega))
    clear HS
    have HB1 := hide2 hb1
    have hs1 := hb1.size
    go_wp2_with fail
    refine HM.out.mono ?_
    rintro e w2 ⟨d, g, T, N, m, F, rfl, -, -, hb2⟩
    clear HM
    have hbb : Below w.heap.size w w2 := HB1.out.trans ⟨hb2.os, hb2.tape, hb2.output, hb2.size, fun j hj => hb2.block j (by omega)⟩
    rcases Decidable.em (b < 1) with hlt | hlt
    · clear hb
      have d1 : decide (b < 1) = true := decide_eq_true hlt
      go_wp2
      go_ret
      exact ⟨rfl, hbb⟩
    · have d1 : decide (b < 1) = false := decide_eq_false hlt
      have d2 : decide (256 < b) = true := decide_eq_true (by omega)
      clear hb
      go_wp2
      go_ret
      exact ⟨rfl, hbb⟩
  · obtain ⟨nb0, rfl⟩ : ∃ n : Nat, b = (n : Int) := ⟨b.toNat, by omega⟩
    have hn : 1 ≤ nb0 ∧ nb0 ≤ 256 := by omega
    clear hb
    go_enter Tryd.func4, Tryd.ntmps4
    go_wp2_with fail
    refine HS.out.mono ?_
    rintro e w1 ⟨rfl, hb1⟩
    have HM := hide2 (made_ok (HT0.out.below hb1 hw0) 400 nb0 (by decide) (by decide) hn.1 hn.2 (by omega))
    clear HS
    have HB1 := hide2 hb1
    have hs1 := hb1.size
    go_wp2_with fail
    refine HM.out.mono ?_
    rintro e w2 ⟨d, tb, K, rfl, h2, hK, hb2⟩
    clear HM
    have hbb : Below w.heap.size w w2 := HB1.out.trans ⟨hb2.os, hb2.tape, hb2.output, hb2.size, fun j hj => hb2.block j (by omega)⟩
    have HTG := hide2 (together_any h2 (fun j hj => by have := hK j hj; omega) hbb hw0 HSQ.out HOK.out (by omega) HPQ.out (by omega))
    clear h2 hK hb2 hbb hb1
    go_wp2_with fail
    refine HTG.out.mono ?_
    rintro e w3 ⟨K3, s3, l3, v3, ab, nb, at4, now4, rfl, hhd, L⟩
    clear HTG
    have HHD := hide2 hhd
    clear hhd
    obtain ⟨g1, g2, g3, g4⟩ := L.done
    obtain ⟨lo, lcap, ev3, hlq⟩ := un_seq L.tm.row
    subst ev3
    have HRW := hide2 L.tm.row
    have HLQ := hide2 hlq
    have HTI := hide2 L.ti
    have HG3 := hide2 g3
    have HOPS : Hid (∀ u ∈ l3, Om w3 u.b (tp tb) u.o ∧ u.o.st = 3) := hide2 (fun u hu => ⟨L.tm.ops u hu, (L.ti.code g3 hu).1⟩)
    have HHT := hide2 L.tm.ht
    have HBL := hide2 L.tm.bl
    have hl60 : l3.length ≤ 60 := by rw [g1, HSQ.out.1]; omega
    have hlcap := hlq.2.1
    have hlmax := hlq.2.2.1
    unfold maxLen at hlmax
    have hw3 : w.heap.size ≤ w3.heap.size := L.tm.bl.size
    obtain ⟨i0, hi0, z0, z1, z2⟩ := info_parts infoAsk
    clear L g1 g2 g3 g4 hlq
    go_wp2
    go_loopw [13, 14, 15, 16, 17, 18, 19] (fun vin k _ _ _ _ _ wr => ∃ m : Nat, m ≤ l3.length ∧ k = .int .i64 m ∧ Hid (Ar wr w3.heap.size vin (insOf (l3.take m))) ∧ Hid (Below w3.heap.size w3 wr)) (fun _ k _ _ _ _ _ _ => l3.length - (intOf k).toNat)
    case atStart => exact ⟨0, by omega, rfl, hide2 ⟨by simp [insOf], .inl ⟨rfl, by simp [insOf]⟩⟩, hide2 (Below.refl _ _)⟩
    case round =>
      obtain ⟨m, hm, rfl, hrow, hbl⟩ := hrel
      obtain ⟨vo, vc, ev, hiq⟩ := hrow.out.seq
      subst ev
      have hsz := hbl.out.size
      by_cases hml : m < l3.length
      · have hmi : (m : Int) < (l3.length : Int) := by omega
        obtain ⟨u, hu⟩ := some_at HLQ.out.1 hml
        have hum := List.mem_of_getElem? hu
        obtain ⟨b, off, eo, hbb, hcell⟩ := (HLQ.out.keep hbl.out).2.2.2 (by omega)
        subst eo
        have u0 : wr.cell? ⟨b, off + m * 7, none⟩ = some (.int .i64 u.x.w) := hcell m u hu 0 _ rfl
        have u1 : wr.cell? ⟨b, off + m * 7 + 1, none⟩ = some (.bool u.x.look) := hcell m u hu 1 _ rfl
        have u2 : wr.cell? ⟨b, off + m * 7 + 2, none⟩ = some (.string u.x.key) := hcell m u hu 2 _ rfl
        have u3 : wr.cell? ⟨b, off + m * 7 + 3, none⟩ = some (.int .i64 u.x.ref) := hcell m u hu 3 _ rfl
        have u4 : wr.cell? ⟨b, off + m * 7 + 4, none⟩ = some (.pointer (some ⟨u.b, 0, none⟩)) := hcell m u hu 4 _ rfl
        have hrf := ref_any ((HOPS.out u hum).1.fr (Fr.below (F := fun _ => False) hbl.out) id) (HOPS.out u hum).2
        rw [(HTI.out.code HG3.out hum).2] at hrf
        have HIK : Hid (∀ q, Calls Tryd.prog 15 #[.string u.x.key] (wr.drewN q) fun e w' => e = .returned (.bool (good u.x.key)) ∧ w' = wr.drewN q) := hide2 (fun q => isKey_any2 u.x.key _)
        have hm2 : m < l3.length := hml
        have hat : l3[m] = u := by rw [List.getElem?_eq_getElem hm2] at hu; exact Option.some.inj hu
        have hNX : insOf (l3.take (m + 1)) = if u.putB = true then insOf (l3.take m) ++ [u.x] else insOf (l3.take m) := by rw [← List.take_append_getElem hm2, hat, insOf_snoc]
        have HNX := hide2 hNX
        have HU := hide2 hu
        have HIQ := hide2 hiq
        have hil : (insOf (l3.take m)).length ≤ 60 := by have := insOf_le (l3.take m); rw [List.length_take] at this; omega
        clear hcell hat hNX hu hum hiq
        cases hg : good u.x.key with
        | false =>
          rw [hg] at hrf HIK
          have hrf2 : Calls Tryd.prog 12 #[.pointer (some ⟨u.b, 0, none⟩)] wr fun y w' => y = .returned (.tuple #[.int .i64 u.o.r, .bool u.o.had, .int .i64 90]) ∧ ∃ q, w' = wr.drewN q := hrf
          have HRF := hide2 hrf2
          have NX : Hid (insOf (l3.take (m + 1)) = insOf (l3.take m)) := hide2 (by rw [HNX.out, if_neg (by rw [putB_iff, hg]; simp)])
          clear hrf hrf2 hg
          go_wp2_with fail
          refine HRF.out.mono ?_
          rintro e w5 ⟨rfl, q5, hw5⟩
          subst hw5
          go_wp2_with fail
          refine (HIK.out _).mono ?_
          rintro e w6 ⟨rfl, hw6⟩
          subst hw6
          go_wp2
          go_roundw
          case rel => exact ⟨m + 1, by omega, by go_num, hide2 (by rw [NX.out]; exact hrow_fr hrow.out ((Fr.refl (fun _ => False) wr).drewN _) (fun _ _ => id)), hide2 (hbl.out.trans (below_drewN _ _ _))⟩
          case measure => simp [intOf]; omega
        | true =>
          rw [hg] at hrf HIK
          have hrf2 : Calls Tryd.prog 12 #[.pointer (some ⟨u.b, 0, none⟩)] wr fun y w' => y = .returned (.tuple #[.int .i64 u.o.r, .bool u.o.had, .int .i64 0]) ∧ ∃ q, w' = wr.drewN q := hrf
          clear hrf
          cases hlk : u.x.look with
          | true =>
            rw [hlk] at u1
            have HRF := hide2 hrf2
            have NX : Hid (insOf (l3.take (m + 1)) = insOf (l3.take m)) := hide2 (by rw [HNX.out, if_neg (by rw [putB_iff, hlk]; simp)])
            clear hrf2 hg hlk
            go_wp2_with fail
            refine HRF.out.mono ?_
            rintro e w5 ⟨rfl, q5, hw5⟩
            subst hw5
            go_wp2_with fail
            refine (HIK.out _).mono ?_
            rintro e w6 ⟨rfl, hw6⟩
            subst hw6
            go_wp2
            go_roundw
            case rel => exact ⟨m + 1, by omega, by go_num, hide2 (by rw [NX.out]; exact hrow_fr hrow.out ((Fr.refl (fun _ => False) wr).drewN _) (fun _ _ => id)), hide2 (hbl.out.trans (below_drewN _ _ _))⟩
            case measure => simp [intOf]; omega
          | false =>
            rw [hlk] at u1
            cases hhd : u.o.had with
            | true =>
              rw [hhd] at hrf2
              have HRF := hide2 hrf2
              have NX : Hid (insOf (l3.take (m + 1)) = insOf (l3.take m)) := hide2 (by rw [HNX.out, if_neg (by rw [putB_iff, hhd]; simp)])
              clear hrf2 hg hlk hhd
              go_wp2_with fail
              refine HRF.out.mono ?_
              rintro e w5 ⟨rfl, q5, hw5⟩
              subst hw5
              go_wp2_with fail
              refine (HIK.out _).mono ?_
              rintro e w6 ⟨rfl, hw6⟩
              subst hw6
              go_wp2
              go_roundw
              case rel => exact ⟨m + 1, by omega, by go_num, hide2 (by rw [NX.out]; exact hrow_fr hrow.out ((Fr.refl (fun _ => False) wr).drewN _) (fun _ _ => id)), hide2 (hbl.out.trans (below_drewN _ _ _))⟩
              case measure => simp [intOf]; omega
            | false =>
              rw [hhd] at hrf2
              have HRF := hide2 hrf2
              have hpb : u.putB = true := (putB_iff u).2 ⟨hg, hlk, hhd⟩
              have NX : Hid (insOf (l3.take (m + 1)) = insOf (l3.take m) ++ [u.x]) := hide2 (by rw [HNX.out, if_pos hpb])
              have HFST : Hid (∀ a ∈ insOf (l3.take m), a.key ≠ u.x.key) := hide2 (fun a ha => HTI.out.first HG3.out HU.out hpb ha)
              have HLK := hide2 hlk
              clear hrf2 hg hlk hhd hpb
              obtain ⟨ins, hins⟩ : ∃ y, y = insOf (l3.take m) := ⟨_, rfl⟩
              rw [← hins] at NX HFST hrow hil HIQ
              rw [← hins]
              clear HNX
              have HINS := hide2 hins
              clear hins
              go_wp2_with fail
              refine HRF.out.mono ?_
              rintro e w5 ⟨rfl, q5, hw5⟩
              have hF5 : Fr (fun _ => False) wr w5 := by rw [hw5]; exact (Fr.refl _ wr).drewN q5
              have hs5 : w5.heap.size = wr.heap.size := by rw [hw5]; rfl
              have x0 : w5.cell? ⟨b, off + m * 7, none⟩ = some (.int .i64 u.x.w) := by rw [hw5]; exact u0
              have x1 : w5.cell? ⟨b, off + m * 7 + 1, none⟩ = some (.bool false) := by rw [hw5]; exact u1
              have x2 : w5.cell? ⟨b, off + m * 7 + 2, none⟩ = some (.string u.x.key) := by rw [hw5]; exact u2
              have x3 : w5.cell? ⟨b, off + m * 7 + 3, none⟩ = some (.int .i64 u.x.ref) := by rw [hw5]; exact u3
              have hik := HIK.out q5
              rw [← hw5] at hik
              have HIK5 := hide2 hik
              have r5 : Ar w5 w3.heap.size (.slice vo ins.length vc) ins := hrow_fr hrow.out hF5 (fun _ _ => id)
              have hb5 : Below w3.heap.size w3 w5 := hbl.out.trans (by rw [hw5]; exact below_drewN _ _ _)
              have HFD := hide2 (find_any9 (HIQ.out.keep (by rw [hw5]; exact below_drewN _ _ _) : Seq 4 AskR.cells w5 vo ins.length vc ins) u.x.key)
              have HR5 := hide2 r5
              have HF5 := hide2 hF5
              have HS5 := hide2 hs5
              have HB5 := hide2 hb5
              clear HRF hw5 r5 hF5 hs5 hb5 hik HIK u0 u1 u2 u3 u4 hrow hbl HIQ
              go_wp2_with fail
              refine HIK5.out.mono ?_
              rintro e w6 ⟨rfl, hw6⟩
              subst hw6
              go_wp2_with fail
              refine HFD.out.mono ?_
              rintro e' w7 ⟨⟨r, rfl, hfd⟩, q7⟩
              subst q7
              have hr6 : r = -1 := by
                rcases hfd with h6 | ⟨i, a, h6, hai, hak⟩
                · exact h6.1
                · exact absurd hak (HFST.out a (List.mem_of_getElem? hai))
              subst hr6
              have hnew := ask_new w7 u.x
              rw [HLK.out] at hnew
              have HNEW := hide2 hnew
              clear hnew hfd HFD
              go_wp2_with (at_builtin; refine Hid.out ?_)
              refine hide2 ?_
              refine wpList_append_own_at _ rfl _ _ 22 rfl w3.heap.size 30 i0 (.agg #[.int .i64 0, .bool false, .string .empty, .int .i64 0]) 4 40 Tryd.underlying22 hi0 z0 z1 z2 rfl (by decide) (.slice vo ins.length vc) _ _ rfl (World.ownsRow.alloc HR5.out _) ⟨w7.heap.size, 0, none⟩ 1 1 [.int .i64 u.x.w, .bool false, .string u.x.key, .int .i64 u.x.ref] rfl rfl HNEW.out (by intro u hu; simp at hu; rcases hu with rfl | rfl | rfl | rfl <;> rfl) (by unfold maxLen; omega) (by omega) (by simp; have := HS5.out; omega) ?_
              intro v' w8 hown8 hgrow8 hat8 hb8
              obtain ⟨gt, capt, ev⟩ := hrow_succ hown8
              have hvlt : ∀ j, (Value.slice vo ins.length vc).ownBlock = some j → w3.heap.size ≤ j := fun j e => (World.ownsRow.lt HR5.out j e).1
              have hFa : Fr (fun _ => False) w7 (w7.alloc (.cells #[.int .i64 u.x.w, .bool false, .string u.x.key, .int .i64 u.x.ref] 30)) := (Fr.refl (fun _ => False) w7).alloc _
              have hF8 : Fr (fun j => (Value.slice vo ins.length vc).ownBlock = some j) w7 w8 := (hFa.mono (G := fun j => (Value.slice vo ins.length vc).ownBlock = some j) (fun _ _ e => e.elim)).trans (Fr.grown hgrow8 (fun j e => e)) (fun j e => .inl e)
              have hr8 : Ar w8 w3.heap.size v' (ins ++ [u.x]) := by
                unfold Ar
                have ec : u.x.cells = [.int .i64 u.x.w, .bool false, .string u.x.key, .int .i64 u.x.ref] := by unfold AskR.cells; rw [HLK.out]
                rw [List.length_append, List.length_singleton, List.flatMap_append, List.flatMap_singleton, ec]
                exact hown8
              have hB8 : Below w3.heap.size w3 w8 := HB5.out.trans (hF8.to (fun j hj e => by have := hvlt j e; omega) HB5.out.size)
              have HR8 := hide2 hr8
              have HB8 := hide2 hB8
              clear hown8 hgrow8 hat8 hb8 hFa hF8 hr8 hB8 hvlt HNEW HR5 HF5 HS5 HB5
              subst ev
              go_frame
              go_wp2
              go_roundw
              case rel => exact ⟨m + 1, by omega, by go_num, hide2 (by rw [NX.out]; exact HR8.out), HB8⟩
              case measure => simp [intOf]; omega
      · obtain rfl : m = l3.length := by omega
        have etk : l3.take l3.length = l3 := List.take_length
        rw [etk] at hiq hrow
        rw [etk]
        clear etk
        have hmi : ¬ (l3.length : Int) < (l3.length : Int) := by omega
        have HIQ := hide2 hiq
        clear hiq
        obtain ⟨nl, hnl⟩ : ∃ y, y = l3.length := ⟨_, rfl⟩
        have HNL := hide2 hnl
        have hnl60 : nl ≤ 60 := by omega
        have hnlc : nl ≤ lcap := by omega
        rw [← hnl]
        rw [← hnl] at hmi
        clear hnl hm hml hl60 hlcap
        obtain ⟨wq, hwq⟩ : ∃ y, y = wr := ⟨_, rfl⟩
        subst hwq
        go_wp2
        go_loopw [20, 21] (fun k _ wx => ∃ (m q : Nat), m ≤ nl ∧ k = .int .i64 m ∧ wx = wq.drewN q) (fun k _ _ => nl - (intOf k).toNat)
        case atStart => exact ⟨0, 0, by omega, rfl, rfl⟩
        case round =>
          obtain ⟨m, q, hm, rfl, hwx⟩ := hrel
          have hbx : Below w3.heap.size w3 wr := by rw [hwx]; exact hbl.out.trans (below_drewN _ _ _)
          by_cases hml : m < nl
          · have hmi : (m : Int) < (nl : Int) := by omega
            obtain ⟨u, hu⟩ := some_at (n := nl) (by rw [HNL.out]) hml
            have hl9 := HLQ.out.keep hbx
            rw [← HNL.out] at hl9
            have hi9 : Seq 4 AskR.cells wr vo (insOf l3).length vc (insOf l3) := by rw [hwx]; exact HIQ.out.keep (below_drewN _ _ _)
            have HFT := hide2 (fits_any (P := P) (tv := tp tb) hl9 hi9 (fun v hv => ⟨(HOPS.out v hv).1.fr (Fr.below (F := fun _ => False) hbx) id, (HOPS.out v hv).2⟩) hu (by omega) (HTI.out.fits2 HG3.out (List.mem_of_getElem? hu)))
            have HWX := hide2 hwx
            clear hwx hbx hl9 hi9 hu
            go_wp2_with fail
            refine HFT.out.mono ?_
            rintro e w9 ⟨rfl, q9, hw9⟩
            subst hw9
            go_wp2
            go_roundw
            case rel => exact ⟨m + 1, _, by omega, by go_num, drew1 HWX.out⟩
            case measure => simp [intOf]; omega
          · have hmi2 : ¬ (m : Int) < (nl : Int) := by omega
            have hht := HHT.out.mono hbx
            have HKY := hide2 hht.keys
            have hi9 : Seq 4 AskR.cells wr vo (insOf l3).length vc (insOf l3) := by rw [hwx]; exact HIQ.out.keep (below_drewN _ _ _)
            have hbw : Below w.heap.size w wr := HBL.out.trans ⟨hbx.os, hbx.tape, hbx.output, hbx.size, fun j hj => hbx.block j (by omega)⟩
            have HI9 := hide2 hi9
            have HBW := hide2 hbw
            clear hwx hbx hht hi9 hbw
            go_wp2_with fail
            refine HKY.out.mono ?_
            rintro e w4 ⟨v4, ts, rfl, hrw4, hp, hnd, hmem, hlen, hb4⟩
            obtain ⟨to, tc, ev4, hts⟩ := str_seq hrw4
            subst ev4
            obtain ⟨hct, hin⟩ := HTI.out.count HG3.out hnd hmem
            have HSO := hide2 (sorted_any9 hts (HI9.out.keep hb4) hct hin hp hnd)
            have hb5 : Below w.heap.size w w4 := HBW.out.trans ⟨hb4.os, hb4.tape, hb4.output, hb4.size, fun j hj => hb4.block j (by have := HBW.out.size; omega)⟩
            have HB5 := hide2 hb5
            clear HKY hrw4 hp hnd hmem hlen hb4 hts hct hin hb5
            go_wp2_with fail
            refine HSO.out.mono ?_
            rintro e w9 ⟨rfl, q9, hw9⟩
            subst hw9
            go_wp2
            go_ret
            exact ⟨rfl, HB5.out.trans (below_drewN _ _ _)⟩

set_option maxRecDepth 100000 in
set_option maxHeartbeats 8000000 in
theorem together_cc (b : Int) {ao po : Option Addr} {len cap P pcap : Nat} {xs : List AskR} {ps : List Int} (hT : Tab w) (hs : Seq 4 AskR.cells w ao len cap xs) (hok : ∀ x ∈ xs, x.ok) (hp : Seq 1 ih w po P pcap ps) (hA : 60 < len) (hB : 10000 < P) :
    Calls Tryd.prog 4 #[.int .i64 b, .slice ao len cap, .slice po P pcap] w fun e w' => e = .returned (.bool true) ∧ Below w.heap.size w w' := by
  have hcap := hs.2.1
  have hmax := hs.2.2.1
  have hpcap := hp.2.1
  have hpmax := hp.2.2.1
  unfold maxLen at hmax hpmax
  obtain ⟨xb, xoff, rfl, -, -⟩ := hs.2.2.2 (by omega)
  have dA : (60 : Int) < (len : Int) := by omega
  obtain ⟨slA, sqA⟩ := seq_upto (P := Tryd.prog) hs 22 30 Tryd.underlying22 size_ask 60 (by omega) (by decide)
  have slA2 : ∀ u : World, (Instr.slice 22 (.slice (some ⟨xb, xoff, none⟩) len cap) none (some (.int .i64 60)) none).run Tryd.prog u = .ok (.slice (some ⟨xb, xoff, none⟩) 60 cap) u := slA
  have HSQ := hide2 sqA
  have HOK : Hid (∀ x ∈ xs.take 60, x.ok) := hide2 (fun x hx => hok x (List.mem_of_mem_take hx))
  clear slA sqA
  obtain ⟨pb, poff, rfl, -, -⟩ := hp.2.2.2 (by omega)
  have dB : (10000 : Int) < (P : Int) := by omega
  obtain ⟨slB, sqB⟩ := seq_upto (P := Tryd.prog) hp 43 3 Tryd.underlying43 size_int 10000 (by omega) (by decide)
  have slB2 : ∀ u : World, (Instr.slice 43 (.slice (some ⟨pb, poff, none⟩) P pcap) none (some (.int .i64 10000)) none).run Tryd.prog u = .ok (.slice (some ⟨pb, poff, none⟩) 10000 pcap) u := slB
  have HPQ := hide2 sqB
  clear slB sqB
  have HS := hide2 (hshown_any hT)
  have HT0 := hide2 hT
  have hw0 := hT.1
  clear hT hs hok hp
  by_cases hb : b < 1 ∨ 256 < b
  · go_enter Tryd.func4, Tryd.ntmps4
    go_wp2_with fail
    refine HS.out.mono ?_
    rintro e w1 ⟨rfl, hb1⟩
    have HM := hide2 (made_arena (HT0.out.below hb1 hw0) 400 b (by decide) (by decide) (by omega))
    clear HS
    have HB1 := hide2 hb1
    have hs1 := hb1.size
    go_wp2_with fail
    refine HM.out.mono ?_
    rintro e w2 ⟨d, g, T, N, m, F, rfl, -, -, hb2⟩
    clear HM
    have hbb : Below w.heap.size w w2 := HB1.out.trans ⟨hb2.os, hb2.tape, hb2.output, hb2.size, fun j hj => hb2.block j (by omega)⟩
    rcases Decidable.em (b < 1) with hlt | hlt
    · clear hb
      have d1 : decide (b < 1) = true := decide_eq_true hlt
      go_wp2
      go_ret
      exact ⟨rfl, hbb⟩
    · have d1 : decide (b < 1) = false := decide_eq_false hlt
      have d2 : decide (256 < b) = true := decide_eq_true (by omega)
      clear hb
      go_wp2
      go_ret
      exact ⟨rfl, hbb⟩
  · obtain ⟨nb0, rfl⟩ : ∃ n : Nat, b = (n : Int) := ⟨b.toNat, by omega⟩
    have hn : 1 ≤ nb0 ∧ nb0 ≤ 256 := by omega
    clear hb
    go_enter Tryd.func4, Tryd.ntmps4
    go_wp2_with fail
    refine HS.out.mono ?_
    rintro e w1 ⟨rfl, hb1⟩
    have HM := hide2 (made_ok (HT0.out.below hb1 hw0) 400 nb0 (by decide) (by decide) hn.1 hn.2 (by omega))
    clear HS
    have HB1 := hide2 hb1
    have hs1 := hb1.size
    go_wp2_with fail
    refine HM.out.mono ?_
    rintro e w2 ⟨d, tb, K, rfl, h2, hK, hb2⟩
    clear HM
    have hbb : Below w.heap.size w w2 := HB1.out.trans ⟨hb2.os, hb2.tape, hb2.output, hb2.size, fun j hj => hb2.block j (by omega)⟩
    have HTG := hide2 (together_any h2 (fun j hj => by have := hK j hj; omega) hbb hw0 HSQ.out HOK.out (by omega) HPQ.out (by omega))
    clear h2 hK hb2 hbb hb1
    go_wp2_with fail
    refine HTG.out.mono ?_
    rintro e w3 ⟨K3, s3, l3, v3, ab, nb, at4, now4, rfl, hhd, L⟩
    clear HTG
    have HHD := hide2 hhd
    clear hhd
    obtain ⟨g1, g2, g3, g4⟩ := L.done
    obtain ⟨lo, lcap, ev3, hlq⟩ := un_seq L.tm.row
    subst ev3
    have HRW := hide2 L.tm.row
    have HLQ := hide2 hlq
    have HTI := hide2 L.ti
    have HG3 := hide2 g3
    have HOPS : Hid (∀ u ∈ l3, Om w3 u.b (tp tb) u.o ∧ u.o.st = 3) := hide2 (fun u hu => ⟨L.tm.ops u hu, (L.ti.code g3 hu).1⟩)
    have HHT := hide2 L.tm.ht
    have HBL := hide2 L.tm.bl
    have hl60 : l3.length ≤ 60 := by rw [g1, HSQ.out.1]; omega
    have hlcap := hlq.2.1
    have hlmax := hlq.2.2.1
    unfold maxLen at hlmax
    have hw3 : w.heap.size ≤ w3.heap.size := L.tm.bl.size
    obtain ⟨i0, hi0, z0, z1, z2⟩ := info_parts infoAsk
    clear L g1 g2 g3 g4 hlq
    go_wp2
    go_loopw [13, 14, 15, 16, 17, 18, 19] (fun vin k _ _ _ _ _ wr => ∃ m : Nat, m ≤ l3.length ∧ k = .int .i64 m ∧ Hid (Ar wr w3.heap.size vin (insOf (l3.take m))) ∧ Hid (Below w3.heap.size w3 wr)) (fun _ k _ _ _ _ _ _ => l3.length - (intOf k).toNat)
    case atStart => exact ⟨0, by omega, rfl, hide2 ⟨by simp [insOf], .inl ⟨rfl, by simp [insOf]⟩⟩, hide2 (Below.refl _ _)⟩
    case round =>
      obtain ⟨m, hm, rfl, hrow, hbl⟩ := hrel
      obtain ⟨vo, vc, ev, hiq⟩ := hrow.out.seq
      subst ev
      have hsz := hbl.out.size
      by_cases hml : m < l3.length
      · have hmi : (m : Int) < (l3.length : Int) := by omega
        obtain ⟨u, hu⟩ := some_at HLQ.out.1 hml
        have hum := List.mem_of_getElem? hu
        obtain ⟨b, off, eo, hbb, hcell⟩ := (HLQ.out.keep hbl.out).2.2.2 (by omega)
        subst eo
        have u0 : wr.cell? ⟨b, off + m * 7, none⟩ = some (.int .i64 u.x.w) := hcell m u hu 0 _ rfl
        have u1 : wr.cell? ⟨b, off + m * 7 + 1, none⟩ = some (.bool u.x.look) := hcell m u hu 1 _ rfl
        have u2 : wr.cell? ⟨b, off + m * 7 + 2, none⟩ = some (.string u.x.key) := hcell m u hu 2 _ rfl
        have u3 : wr.cell? ⟨b, off + m * 7 + 3, none⟩ = some (.int .i64 u.x.ref) := hcell m u hu 3 _ rfl
        have u4 : wr.cell? ⟨b, off + m * 7 + 4, none⟩ = some (.pointer (some ⟨u.b, 0, none⟩)) := hcell m u hu 4 _ rfl
        have hrf := ref_any ((HOPS.out u hum).1.fr (Fr.below (F := fun _ => False) hbl.out) id) (HOPS.out u hum).2
        rw [(HTI.out.code HG3.out hum).2] at hrf
        have HIK : Hid (∀ q, Calls Tryd.prog 15 #[.string u.x.key] (wr.drewN q) fun e w' => e = .returned (.bool (good u.x.key)) ∧ w' = wr.drewN q) := hide2 (fun q => isKey_any2 u.x.key _)
        have hm2 : m < l3.length := hml
        have hat : l3[m] = u := by rw [List.getElem?_eq_getElem hm2] at hu; exact Option.some.inj hu
        have hNX : insOf (l3.take (m + 1)) = if u.putB = true then insOf (l3.take m) ++ [u.x] else insOf (l3.take m) := by rw [← List.take_append_getElem hm2, hat, insOf_snoc]
        have HNX := hide2 hNX
        have HU := hide2 hu
        have HIQ := hide2 hiq
        have hil : (insOf (l3.take m)).length ≤ 60 := by have := insOf_le (l3.take m); rw [List.length_take] at this; omega
        clear hcell hat hNX hu hum hiq
        cases hg : good u.x.key with
        | false =>
          rw [hg] at hrf HIK
          have hrf2 : Calls Tryd.prog 12 #[.pointer (some ⟨u.b, 0, none⟩)] wr fun y w' => y = .returned (.tuple #[.int .i64 u.o.r, .bool u.o.had, .int .i64 90]) ∧ ∃ q, w' = wr.drewN q := hrf
          have HRF := hide2 hrf2
          have NX : Hid (insOf (l3.take (m + 1)) = insOf (l3.take m)) := hide2 (by rw [HNX.out, if_neg (by rw [putB_iff, hg]; simp)])
          clear hrf hrf2 hg
          go_wp2_with fail
          refine HRF.out.mono ?_
          rintro e w5 ⟨rfl, q5, hw5⟩
          subst hw5
          go_wp2_with fail
          refine (HIK.out _).mono ?_
          rintro e w6 ⟨rfl, hw6⟩
          subst hw6
          go_wp2
          go_roundw
          case rel => exact ⟨m + 1, by omega, by go_num, hide2 (by rw [NX.out]; exact hrow_fr hrow.out ((Fr.refl (fun _ => False) wr).drewN _) (fun _ _ => id)), hide2 (hbl.out.trans (below_drewN _ _ _))⟩
          case measure => simp [intOf]; omega
        | true =>
          rw [hg] at hrf HIK
          have hrf2 : Calls Tryd.prog 12 #[.pointer (some ⟨u.b, 0, none⟩)] wr fun y w' => y = .returned (.tuple #[.int .i64 u.o.r, .bool u.o.had, .int .i64 0]) ∧ ∃ q, w' = wr.drewN q := hrf
          clear hrf
          cases hlk : u.x.look with
          | true =>
            rw [hlk] at u1
            have HRF := hide2 hrf2
            have NX : Hid (insOf (l3.take (m + 1)) = insOf (l3.take m)) := hide2 (by rw [HNX.out, if_neg (by rw [putB_iff, hlk]; simp)])
            clear hrf2 hg hlk
            go_wp2_with fail
            refine HRF.out.mono ?_
            rintro e w5 ⟨rfl, q5, hw5⟩
            subst hw5
            go_wp2_with fail
            refine (HIK.out _).mono ?_
            rintro e w6 ⟨rfl, hw6⟩
            subst hw6
            go_wp2
            go_roundw
            case rel => exact ⟨m + 1, by omega, by go_num, hide2 (by rw [NX.out]; exact hrow_fr hrow.out ((Fr.refl (fun _ => False) wr).drewN _) (fun _ _ => id)), hide2 (hbl.out.trans (below_drewN _ _ _))⟩
            case measure => simp [intOf]; omega
          | false =>
            rw [hlk] at u1
            cases hhd : u.o.had with
            | true =>
              rw [hhd] at hrf2
              have HRF := hide2 hrf2
              have NX : Hid (insOf (l3.take (m + 1)) = insOf (l3.take m)) := hide2 (by rw [HNX.out, if_neg (by rw [putB_iff, hhd]; simp)])
              clear hrf2 hg hlk hhd
              go_wp2_with fail
              refine HRF.out.mono ?_
              rintro e w5 ⟨rfl, q5, hw5⟩
              subst hw5
              go_wp2_with fail
              refine (HIK.out _).mono ?_
              rintro e w6 ⟨rfl, hw6⟩
              subst hw6
              go_wp2
              go_roundw
              case rel => exact ⟨m + 1, by omega, by go_num, hide2 (by rw [NX.out]; exact hrow_fr hrow.out ((Fr.refl (fun _ => False) wr).drewN _) (fun _ _ => id)), hide2 (hbl.out.trans (below_drewN _ _ _))⟩
              case measure => simp [intOf]; omega
            | false =>
              rw [hhd] at hrf2
              have HRF := hide2 hrf2
              have hpb : u.putB = true := (putB_iff u).2 ⟨hg, hlk, hhd⟩
              have NX : Hid (insOf (l3.take (m + 1)) = insOf (l3.take m) ++ [u.x]) := hide2 (by rw [HNX.out, if_pos hpb])
              have HFST : Hid (∀ a ∈ insOf (l3.take m), a.key ≠ u.x.key) := hide2 (fun a ha => HTI.out.first HG3.out HU.out hpb ha)
              have HLK := hide2 hlk
              clear hrf2 hg hlk hhd hpb
              obtain ⟨ins, hins⟩ : ∃ y, y = insOf (l3.take m) := ⟨_, rfl⟩
              rw [← hins] at NX HFST hrow hil HIQ
              rw [← hins]
              clear HNX
              have HINS := hide2 hins
              clear hins
              go_wp2_with fail
              refine HRF.out.mono ?_
              rintro e w5 ⟨rfl, q5, hw5⟩
              have hF5 : Fr (fun _ => False) wr w5 := by rw [hw5]; exact (Fr.refl _ wr).drewN q5
              have hs5 : w5.heap.size = wr.heap.size := by rw [hw5]; rfl
              have x0 : w5.cell? ⟨b, off + m * 7, none⟩ = some (.int .i64 u.x.w) := by rw [hw5]; exact u0
              have x1 : w5.cell? ⟨b, off + m * 7 + 1, none⟩ = some (.bool false) := by rw [hw5]; exact u1
              have x2 : w5.cell? ⟨b, off + m * 7 + 2, none⟩ = some (.string u.x.key) := by rw [hw5]; exact u2
              have x3 : w5.cell? ⟨b, off + m * 7 + 3, none⟩ = some (.int .i64 u.x.ref) := by rw [hw5]; exact u3
              have hik := HIK.out q5
              rw [← hw5] at hik
              have HIK5 := hide2 hik
              have r5 : Ar w5 w3.heap.size (.slice vo ins.length vc) ins := hrow_fr hrow.out hF5 (fun _ _ => id)
              have hb5 : Below w3.heap.size w3 w5 := hbl.out.trans (by rw [hw5]; exact below_drewN _ _ _)
              have HFD := hide2 (find_any9 (HIQ.out.keep (by rw [hw5]; exact below_drewN _ _ _) : Seq 4 AskR.cells w5 vo ins.length vc ins) u.x.key)
              have HR5 := hide2 r5
              have HF5 := hide2 hF5
              have HS5 := hide2 hs5
              have HB5 := hide2 hb5
              clear HRF hw5 r5 hF5 hs5 hb5 hik HIK u0 u1 u2 u3 u4 hrow hbl HIQ
              go_wp2_with fail
              refine HIK5.out.mono ?_
              rintro e w6 ⟨rfl, hw6⟩
              subst hw6
              go_wp2_with fail
              refine HFD.out.mono ?_
              rintro e' w7 ⟨⟨r, rfl, hfd⟩, q7⟩
              subst q7
              have hr6 : r = -1 := by
                rcases hfd with h6 | ⟨i, a, h6, hai, hak⟩
                · exact h6.1
                · exact absurd hak (HFST.out a (List.mem_of_getElem? hai))
              subst hr6
              have hnew := ask_new w7 u.x
              rw [HLK.out] at hnew
              have HNEW := hide2 hnew
              clear hnew hfd HFD
              go_wp2_with (at_builtin; refine Hid.out ?_)
              refine hide2 ?_
              refine wpList_append_own_at _ rfl _ _ 22 rfl w3.heap.size 30 i0 (.agg #[.int .i64 0, .bool false, .string .empty, .int .i64 0]) 4 40 Tryd.underlying22 hi0 z0 z1 z2 rfl (by decide) (.slice vo ins.length vc) _ _ rfl (World.ownsRow.alloc HR5.out _) ⟨w7.heap.size, 0, none⟩ 1 1 [.int .i64 u.x.w, .bool false, .string u.x.key, .int .i64 u.x.ref] rfl rfl HNEW.out (by intro u hu; simp at hu; rcases hu with rfl | rfl | rfl | rfl <;> rfl) (by unfold maxLen; omega) (by omega) (by simp; have := HS5.out; omega) ?_
              intro v' w8 hown8 hgrow8 hat8 hb8
              obtain ⟨gt, capt, ev⟩ := hrow_succ hown8
              have hvlt : ∀ j, (Value.slice vo ins.length vc).ownBlock = some j → w3.heap.size ≤ j := fun j e => (World.ownsRow.lt HR5.out j e).1
              have hFa : Fr (fun _ => False) w7 (w7.alloc (.cells #[.int .i64 u.x.w, .bool false, .string u.x.key, .int .i64 u.x.ref] 30)) := (Fr.refl (fun _ => False) w7).alloc _
              have hF8 : Fr (fun j => (Value.slice vo ins.length vc).ownBlock = some j) w7 w8 := (hFa.mono (G := fun j => (Value.slice vo ins.length vc).ownBlock = some j) (fun _ _ e => e.elim)).trans (Fr.grown hgrow8 (fun j e => e)) (fun j e => .inl e)
              have hr8 : Ar w8 w3.heap.size v' (ins ++ [u.x]) := by
                unfold Ar
                have ec : u.x.cells = [.int .i64 u.x.w, .bool false, .string u.x.key, .int .i64 u.x.ref] := by unfold AskR.cells; rw [HLK.out]
                rw [List.length_append, List.length_singleton, List.flatMap_append, List.flatMap_singleton, ec]
                exact hown8
              have hB8 : Below w3.heap.size w3 w8 := HB5.out.trans (hF8.to (fun j hj e => by have := hvlt j e; omega) HB5.out.size)
              have HR8 := hide2 hr8
              have HB8 := hide2 hB8
              clear hown8 hgrow8 hat8 hb8 hFa hF8 hr8 hB8 hvlt HNEW HR5 HF5 HS5 HB5
              subst ev
              go_frame
              go_wp2
              go_roundw
              case rel => exact ⟨m + 1, by omega, by go_num, hide2 (by rw [NX.out]; exact HR8.out), HB8⟩
              case measure => simp [intOf]; omega
      · obtain rfl : m = l3.length := by omega
        have etk : l3.take l3.length = l3 := List.take_length
        rw [etk] at hiq hrow
        rw [etk]
        clear etk
        have hmi : ¬ (l3.length : Int) < (l3.length : Int) := by omega
        have HIQ := hide2 hiq
        clear hiq
        obtain ⟨nl, hnl⟩ : ∃ y, y = l3.length := ⟨_, rfl⟩
        have HNL := hide2 hnl
        have hnl60 : nl ≤ 60 := by omega
        have hnlc : nl ≤ lcap := by omega
        rw [← hnl]
        rw [← hnl] at hmi
        clear hnl hm hml hl60 hlcap
        obtain ⟨wq, hwq⟩ : ∃ y, y = wr := ⟨_, rfl⟩
        subst hwq
        go_wp2
        go_loopw [20, 21] (fun k _ wx => ∃ (m q : Nat), m ≤ nl ∧ k = .int .i64 m ∧ wx = wq.drewN q) (fun k _ _ => nl - (intOf k).toNat)
        case atStart => exact ⟨0, 0, by omega, rfl, rfl⟩
        case round =>
          obtain ⟨m, q, hm, rfl, hwx⟩ := hrel
          have hbx : Below w3.heap.size w3 wr := by rw [hwx]; exact hbl.out.trans (below_drewN _ _ _)
          by_cases hml : m < nl
          · have hmi : (m : Int) < (nl : Int) := by omega
            obtain ⟨u, hu⟩ := some_at (n := nl) (by rw [HNL.out]) hml
            have hl9 := HLQ.out.keep hbx
            rw [← HNL.out] at hl9
            have hi9 : Seq 4 AskR.cells wr vo (insOf l3).length vc (insOf l3) := by rw [hwx]; exact HIQ.out.keep (below_drewN _ _ _)
            have HFT := hide2 (fits_any (P := 10000) (tv := tp tb) hl9 hi9 (fun v hv => ⟨(HOPS.out v hv).1.fr (Fr.below (F := fun _ => False) hbx) id, (HOPS.out v hv).2⟩) hu (by omega) (HTI.out.fits2 HG3.out (List.mem_of_getElem? hu)))
            have HWX := hide2 hwx
            clear hwx hbx hl9 hi9 hu
            go_wp2_with fail
            refine HFT.out.mono ?_
            rintro e w9 ⟨rfl, q9, hw9⟩
            subst hw9
            go_wp2
            go_roundw
            case rel => exact ⟨m + 1, _, by omega, by go_num, drew1 HWX.out⟩
            case measure => simp [intOf]; omega
          · have hmi2 : ¬ (m : Int) < (nl : Int) := by omega
            have hht := HHT.out.mono hbx
            have HKY := hide2 hht.keys
            have hi9 : Seq 4 AskR.cells wr vo (insOf l3).length vc (insOf l3) := by rw [hwx]; exact HIQ.out.keep (below_drewN _ _ _)
            have hbw : Below w.heap.size w wr := HBL.out.trans ⟨hbx.os, hbx.tape, hbx.output, hbx.size, fun j hj => hbx.block j (by omega)⟩
            have HI9 := hide2 hi9
            have HBW := hide2 hbw
            clear hwx hbx hht hi9 hbw
            go_wp2_with fail
            refine HKY.out.mono ?_
            rintro e w4 ⟨v4, ts, rfl, hrw4, hp, hnd, hmem, hlen, hb4⟩
            obtain ⟨to, tc, ev4, hts⟩ := str_seq hrw4
            subst ev4
            obtain ⟨hct, hin⟩ := HTI.out.count HG3.out hnd hmem
            have HSO := hide2 (sorted_any9 hts (HI9.out.keep hb4) hct hin hp hnd)
            have hb5 : Below w.heap.size w w4 := HBW.out.trans ⟨hb4.os, hb4.tape, hb4.output, hb4.size, fun j hj => hb4.block j (by have := HBW.out.size; omega)⟩
            have HB5 := hide2 hb5
            clear HKY hrw4 hp hnd hmem hlen hb4 hts hct hin hb5
            go_wp2_with fail
            refine HSO.out.mono ?_
            rintro e w9 ⟨rfl, q9, hw9⟩
            subst hw9
            go_wp2
            go_ret
            exact ⟨rfl, HB5.out.trans (below_drewN _ _ _)⟩

theorem hashTogether_walk (b : Int) (ao : Option Addr) (len cap : Nat) (xs : List AskR) (po : Option Addr) (P pcap : Nat) (ps : List Int) (hT : Tab w) (hs : Seq 4 AskR.cells w ao len cap xs) (hok : ∀ x ∈ xs, x.ok) (hp : Seq 1 ih w po P pcap ps) :
    Calls Tryd.prog 4 #[.int .i64 b, .slice ao len cap, .slice po P pcap] w fun e w' => e = .returned (.bool true) ∧ Below w.heap.size w w' := by
  rcases Nat.lt_or_ge 60 len with hA | hA <;> rcases Nat.lt_or_ge 10000 P with hB | hB
  · exact together_cc b hT hs hok hp hA hB
  · exact together_cn b hT hs hok hp hA hB
  · exact together_nc b hT hs hok hp hA hB
  · exact together_nn b hT hs hok hp hA hB
end
end Go.Proofs.YtbpihkojmbfccaaDoor
