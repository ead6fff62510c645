/-
  The document's own disk: Names.
-/
import Derived.Test.YtolaagbdnchhiaaRD6
set_option linter.unusedVariables false
set_option linter.unusedSimpArgs false
namespace Go.Proofs.Ytolaagbdnchhiaa
open Go.RowKit Go.Maps

theorem infoStr : (Try.prog.info? 9).map (fun i => (i.zero, i.size, i.bytes)) = some (some (.string .empty), 1, 16) := by kernel_rfl
def sc (l : List ByteArray) : List Value := l.map Value.string
theorem nl_at {D : PDir} {k : Nat} {p : Lit × Nat} (h : D[k]? = some p) : (nl D)[k]? = some (ks p.1, (p.2 : Int)) := by
  unfold nl
  rw [List.getElem?_map, h]
  rfl
set_option maxRecDepth 100000 in
set_option maxHeartbeats 2000000 in
theorem ref_names {w : World} {r : Nat} {κ : Nat → Ro} {P : PD} {cut : Int} {off : Bool} (h : RD w r κ P cut off) (hP : P.inv) :
    Calls Try.prog 40 #[.pointer (some ⟨r, 0, none⟩)] w fun e w' => ∃ ao len cap, e = .returned (.slice ao len cap) ∧ St w' ao len cap (Land.dnames P.now) ∧ Below w.heap.size w w' := by
  obtain ⟨vF, vO, vL, vN, φ, β, h⟩ := h
  obtain ⟨i0, hi, hz0, hz1, hz2⟩ := info_parts infoStr
  have hg := hP.now
  have hl := hg.len
  have hlt := h.rk.lt
  obtain ⟨c0, c1, c2, c3, c4, c5, c6⟩ := h.rk.cells
  obtain ⟨ao, cap, rfl⟩ := h.rN.form
  have HR := hide2 h.rN.row
  have HG := hide2 hg
  have hnlen : (nl P.now).length = P.now.length := nl_len _
  have HRK := hide2 h.rk
  clear h c0 c1 c2 c4 c5 c6 hg
  rw [hnlen] at HR HRK c3
  generalize hD : P.now = D at *
  go_enter Try.func40, Try.ntmps40
  go_wp2
  go_loopw [3, 4] (fun v i wr => ∃ k : Nat, k ≤ D.length ∧ i = .int .i64 k ∧ wr.ownsRow w.heap.size 9 1 v k (sc (Land.dnames (D.take k))) ∧ Below w.heap.size w wr) (fun _ i _ => D.length - (intOf i).toNat)
  case atStart => exact ⟨0, by omega, rfl, ⟨rfl, .inl ⟨rfl, rfl⟩⟩, Below.refl _ _⟩
  case round =>
    obtain ⟨k, hk, rfl, hown, hB⟩ := hrel
    have hsz := hB.size
    have q3 : wr.cell? ⟨r, 3, none⟩ = some (.slice ao D.length cap) := (hB.cell (p := ⟨r, 3, none⟩) hlt).trans c3
    by_cases hkl : k < D.length
    · obtain ⟨g, cap', e, hgg, hgl, hcell⟩ := HR.out (by omega)
      cases e
      obtain ⟨p, hp⟩ : ∃ p, D[k]? = some p := ⟨D[k], List.getElem?_eq_getElem hkl⟩
      obtain ⟨q0, q1⟩ := hcell k _ (nl_at hp)
      have a0 : wr.cell? ⟨g, k * 2, none⟩ = some (.string (ks p.1)) := (hB.cell (p := ⟨g, k * 2, none⟩) hgl).trans q0
      have hts : sc (Land.dnames (D.take (k + 1))) = sc (Land.dnames (D.take k)) ++ [.string (ks p.1)] := by
        rw [List.take_add_one, hp]
        simp [sc, Land.dnames]
      have hc2 : (k : Int) < (D.length : Int) := by omega
      have HT := hide2 hts
      have HO := hide2 hown
      clear hcell q0 q1 hts hown hp
      go_wp2_with (first
        | (at_builtin; refine Hid.out ?_)
        | go_in)
      refine hide2 ?_
      refine wpList_append_own _ rfl _ _ 38 rfl w.heap.size 9 i0 (.string .empty) 1 16 Try.underlying38 hi hz0 hz1 hz2 rfl (by decide) u3 _ _ rfl (World.ownsRow.alloc HO.out _) ⟨wr.heap.size, 0, none⟩ 1 1 [.string (ks p.1)] rfl rfl (cell_one_new _ _ _) (by intro u hu; simp at hu; subst hu; rfl) (by unfold maxLen; omega) (by omega) (by simp; omega) ?_
      intro v' w2 hown' hgrow _
      have hB2 : Below w.heap.size w w2 := (hB.alloc hsz (.cells #[.string (ks p.1)] 9)).trans ((Below.refl _ _).grown hgrow (by simp; omega) fun k hk => (World.ownsRow.lt HO.out k hk).1)
      clear hgrow HO a0
      go_frame
      go_wp2
      go_roundw
      case rel => exact ⟨k + 1, by omega, by go_num, by rw [HT.out]; exact hown', hB2⟩
      case measure => simp [intOf]; omega
    · obtain rfl : k = D.length := by omega
      rw [List.take_length] at hown
      go_wp2
      go_ret
      have hmem : ∀ s ∈ Land.dnames D, s.size ≤ maxLen := fun s hs => by
        obtain ⟨p, hp, rfl⟩ := List.mem_map.1 hs
        obtain ⟨⟨t, et, hn⟩, _⟩ := HG.out.all p hp
        rw [et, ks_kl]
        have := isName_size hn
        unfold maxLen
        omega
      have hdl : (Land.dnames D).length = D.length := by simp [Land.dnames]
      rcases hown.2 with ⟨rfl, h0⟩ | ⟨g, cap2, cur, rfl, hg, hh, hn, hm2, hcs, hct⟩
      · exact ⟨none, 0, 0, rfl, ⟨by omega, Nat.le_refl _, Nat.zero_le _, hmem, fun h => absurd h (by omega)⟩, hB⟩
      · refine ⟨some ⟨g, 0, none⟩, D.length, cap2, rfl, ⟨hdl, hn, hm2, hmem, fun _ => ⟨g, 0, rfl, (Array.getElem?_eq_some_iff.1 hh).1, fun i hi => ?_⟩⟩, hB⟩
        rw [Nat.zero_add, World.ownsRow.cellAt hown i (by omega)]
        unfold sc
        rw [List.getElem?_map, List.getElem?_eq_getElem (by omega)]
        simp [List.getD, List.getElem?_eq_getElem (show i < (Land.dnames D).length by omega)]
end Go.Proofs.Ytolaagbdnchhiaa
