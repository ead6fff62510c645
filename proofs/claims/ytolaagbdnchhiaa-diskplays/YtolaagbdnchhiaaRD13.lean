/-
  The document's own disk: Append to a name that is not there: the walk; Append whole.
-/
import Derived.Test.YtolaagbdnchhiaaRD12
set_option linter.unusedVariables false
set_option linter.unusedSimpArgs false
namespace Go.Proofs.Ytolaagbdnchhiaa
open Go.RowKit Go.Maps

/-- A slice that is not the disk's, behind what the disk does. -/
theorem sl_out {w w' : World} {κ : Nat → Ro} {ao : Option Addr} {len cap : Nat} {xs : List Int} (hsl : Sl w ao len cap xs) (hout : 0 < len → ∀ b o, ao = some ⟨b, o, none⟩ → κ b = .out) (F : Fr (fun j => κ j ≠ .out) w w') : Sl w' ao len cap xs := by
  obtain ⟨x1, x2, x3, x4, x5, x6⟩ := hsl
  refine ⟨x1, x2, x3, x4, x5, fun hl => ?_⟩
  obtain ⟨b, o, e, hlt, hc⟩ := x6 hl
  refine ⟨b, o, e, Nat.lt_of_lt_of_le hlt F.size, fun j hj => ?_⟩
  exact (World.cell?_of_block (w := w) (w' := w') (F.block b hlt (fun h => h (hout hl b o e)))).trans (hc j hj)

theorem Rres.pre {w w1 w2 : World} {r : Nat} {κ κ1 : Nat → Ro} {P : PD} {cut : Int} {off : Bool} (h : Rres w1 w2 r κ1 P cut off) (o : ∀ j, j < w.heap.size → κ1 j = κ j) (F : Fr (fun j => κ j ≠ .out) w w1) : Rres w w2 r κ P cut off := by
  obtain ⟨κ', q1, q2, q3⟩ := h
  have hz := F.size
  refine ⟨κ', q1, fun j hj => (q2 j (by omega)).trans (o j hj), F.trans q3 fun j e => ?_⟩
  by_cases hj : j < w.heap.size
  · left
    rw [← o j hj]
    exact e
  · right
    omega

section
variable {w w' : World} {r : Nat} {κ : Nat → Ro} {vF vO vL vN : Value} {φ : Nat → Nat} {β : Nat → Value} {P : PD} {cut : Int} {off : Bool}

set_option maxHeartbeats 4000000 in
set_option maxRecDepth 100000 in
theorem ref_app_make (h : Wd w r κ vF vO vL vN φ β P cut off) (hP : P.inv) (s : ByteArray) (hs : s.size ≤ maxLen) (ao : Option Addr) (len cap : Nat) (xs : List Int) (hsl : Sl w ao len cap xs) (hout : 0 < len → ∀ b o, ao = some ⟨b, o, none⟩ → κ b = .out) (ho : offed P.n cut off = false) (hn : isName s = true) (hp : plook (kl s) P.now = none) (hb : ¬ (65536 ≤ P.n ∨ 262144 < len ∨ 64 ≤ P.now.length)) :
    Calls Try.prog 29 #[.pointer (some ⟨r, 0, none⟩), .string s, .slice ao len cap] w fun e w' => e = .returned (.int .i64 0) ∧ Rres w w' r κ { P with log := P.log ++ [.mk s P.fil.length], fil := P.fil ++ [(xs, 0)], n := P.n + 1 } cut false := by
  obtain ⟨iF, hiF, zF0, zF1, zF2⟩ := info_parts infoFp
  have hm := ref_may h.rk
  rw [ho] at hm
  have hg := hP.now
  have hgl := hg.len
  have hlo := hP.lo
  have hfew := hP.few
  have hfl := hP.filn
  have hNr := h.rN
  obtain ⟨aN, cN, rfl⟩ := hNr.form
  rw [nl_len] at *
  have hrF := h.rF
  obtain ⟨aF, cF, rfl⟩ := row_form hrF
  have HW := hide2 h
  have HG := hide2 hg
  have hne : s ≠ .empty := name_some hn
  clear h hg hNr hrF
  go_enter Try.func29, Try.ntmps29
  go_wp2_with fail
  refine hm.mono ?_
  rintro e w1 ⟨rfl, hk, hF, hz⟩
  have h1 := HW.out.blk hF hk
  have hN1 := h1.rN
  have hi := refIsName_any s w1 hs
  rw [hn] at hi
  have hf := find_ref hN1 (by rw [nl_len]; exact Nat.le_trans hgl (by decide)) s
  rw [nl_find (D := P.now) HG.out.txt, hp] at hf
  obtain ⟨c0, c1, c2, c3, c4, c5, c6⟩ := hk.cells
  have hF1 : Fr (fun j => κ j ≠ .out) w w1 := hF.mono fun j _ e => by rw [e, HW.out.kr]; exact Ro.noConfusion
  have hsl1 := sl_out hsl hout hF1
  have H1 := hide2 h1
  have HSL := hide2 hsl1
  have HF1 := hide2 hF1
  have HZ := hide2 hz
  have HOUT := hide2 hout
  have hrow := h1.rF
  have HROW := hide2 hrow
  have hnew : ∀ t2 j u, [Value.pointer (some ⟨w1.heap.size, 0, none⟩)][j]? = some u → ((w1.alloc (.cells #[.slice none 0 0, .int .i64 0] 94)).alloc (.cells #[.pointer (some ⟨w1.heap.size, 0, none⟩)] t2)).cell? ((⟨w1.heap.size + 1, 0, none⟩ : Addr).add j) = some u := fun t2 j u hj => by
    have := cell_one_new (w1.alloc (.cells #[.slice none 0 0, .int .i64 0] 94)) _ t2 j u hj
    simpa using this
  have HNEW := hide2 hnew
  clear hm hk hN1 h1 hsl hsl1 hF1 hout hrow hnew hz
  have d1 : decide (65536 ≤ P.n) = false := by simp; omega
  have i1 : ¬ 65536 ≤ P.n := by omega
  have d2 : decide ((262144 : Int) < (len : Int)) = false := by simp; omega
  have d2' : decide (262144 < len) = false := by simp; omega
  have i2 : ¬ (262144 : Int) < (len : Int) := by omega
  have d3 : decide ((64 : Int) ≤ (P.now.length : Int)) = false := by simp; omega
  have d3' : decide (64 ≤ P.now.length) = false := by simp; omega
  have i3 : ¬ (64 : Int) ≤ (P.now.length : Int) := by omega
  have hflm : P.fil.length ≤ 65600 := by omega
  go_wp2_with fail
  refine hi.mono ?_
  rintro e w2 ⟨rfl, rfl⟩
  clear hi
  go_wp2_with fail
  refine hf.mono ?_
  rintro e w2 ⟨rfl, rfl⟩
  clear hf
  go_wp2_with (at_builtin; refine wpList_append_own_at _ rfl _ _ 62 rfl 0 95 iF (.pointer none) 1 8 Try.underlying62 hiF zF0 zF1 zF2 rfl (by decide) (.slice aF P.fil.length cF) P.fil.length _ rfl ((HROW.out.alloc _).alloc _) ⟨w2.heap.size + 1, 0, none⟩ 1 1 [.pointer (some ⟨w2.heap.size, 0, none⟩)] rfl rfl (HNEW.out _) (by simp [Value.oneCell']) (by unfold maxLen; omega) (by omega) (Nat.zero_le _) ?_; intro v' w3 hown hgrow _ hat; obtain ⟨aV, cV, rfl⟩ := row_form hown; obtain ⟨m1, m2, κ2, φ2, β2, h2, o2, F2⟩ := made_mem H1.out _ hown hgrow hat; replace h2 := hide2 h2; replace o2 := hide2 o2; replace F2 := hide2 F2; clear hown hgrow hat)
  have hc2 := ref_change2 h2.out (show (P.log.length : Int) ≤ P.n from hfew) (show P.n ≤ 65536 by omega) (L := P.fil.length) (show Dgood (PD.now { P with fil := P.fil ++ [([], 0)] }) P.fil.length from HG.out) (.mk s P.fil.length) hne
  have HC2 := hide2 hc2
  clear hc2
  refine HC2.out.mono ?_
  rintro e w4 ⟨rfl, κ3, vL', vN', h4, o4, F4⟩
  have F24 : Fr (fun j => κ j ≠ .out) w2 w4 := F2.out.trans F4 fun j e => by
    by_cases hj : j < w2.heap.size
    · left
      rw [← o2.out j hj]
      exact e
    · right
      omega
  have hsl4 : Sl w4.drew ao len cap xs := (sl_out HSL.out HOUT.out F24 : Sl w4 ao len cap xs)
  obtain ⟨g, capF, ab, lb, capb, av, lv, cv, W, hvF, hcell, hbv, q0, hlb, hap, hcellW, cW0, cW4, qW0, qWf, c34, f34, hres⟩ := app_tail (i := P.fil.length) (y := ([], 0)) h4 (by simp) (by intro x hx; cases hx) hsl4 (by simp; omega)
  have hfin : Rres w ((W.setCell ⟨φ2 P.fil.length, 0, none⟩ (.slice av lv cv)).setCell ⟨r, 4, none⟩ (.int .i64 (P.n + 1))) r κ { P with log := P.log ++ [.mk s P.fil.length], fil := P.fil ++ [(xs, 0)], n := P.n + 1 } cut false := by
    have e1 : (P.fil ++ [(([] : List Int), 0)]).set P.fil.length ([] ++ xs, 0) = P.fil ++ [(xs, 0)] := by simp
    have h5 : Rres w4 ((W.setCell ⟨φ2 P.fil.length, 0, none⟩ (.slice av lv cv)).setCell ⟨r, 4, none⟩ (.int .i64 (P.n + 1))) r κ3 { P with log := P.log ++ [.mk s P.fil.length], fil := P.fil ++ [(xs, 0)], n := P.n + 1 } cut false := by
      have := hres
      simp only [e1] at this
      exact this
    exact ((h5.pre o4 F4).pre o2.out F2.out).pre (fun j hj => rfl) HF1.out
  have HFin := hide2 hfin
  have hk4 := h4.rk
  obtain ⟨k0, k1, k2, k3, k4, k5, k6⟩ := hk4.cells
  have HAP := hide2 hap
  simp only [Value.slice.injEq] at hvF
  obtain ⟨rfl, hvl, rfl⟩ := hvF
  obtain rfl : lb = 0 := hlb
  have hii : (P.fil.length : Int) < (P.fil.length : Int) + 1 := by omega
  have hi0 : ¬ (P.fil.length : Int) < 0 := by omega
  have hP64 : P.n + 1 ≤ 9223372036854775807 := by omega
  clear hap hres hfin hk4 h4 o4 F4 F24 hsl4 HC2 h2 o2 F2 m1 m2 hbv hvl
  go_wp2
  go_region_law (refine step_append_eq (by rfl) _ _ _ (by rfl) (.slice ab 0 capb) (.slice ao len cap) (.slice av lv cv) W (by rfl) (by rfl) HAP.out ?_)
  all_goals
    go_wp2
    go_ret
    exact ⟨rfl, HFin.out⟩
end
end Go.Proofs.Ytolaagbdnchhiaa
