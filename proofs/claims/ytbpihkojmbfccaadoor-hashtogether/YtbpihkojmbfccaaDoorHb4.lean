/-
  An operation alone; the law's done.
-/
import Derived.Test.YtbpihkojmbfccaaDoorHb3
set_option linter.unusedVariables false
set_option linter.unusedSimpArgs false
namespace Go.Proofs.YtbpihkojmbfccaaDoor
open Go.RowKit Go.Maps

/-- What an operation has come to, alone. -/
def Fin (z : Nat) (s : Tb) (k : ByteArray) (ins : Bool) (r : Int) (s' : Tb) (o : Opm) : Prop :=
  (∃ e ∈ s.at (bkt s.hd.length k), e.k = k ∧ o.r = e.r ∧ o.had = true ∧ o.code = 0 ∧ s' = s) ∨
  ((∀ e ∈ s.at (bkt s.hd.length k), e.k ≠ k) ∧ ((ins = false ∧ o.r = 0 ∧ o.had = false ∧ o.code = 0 ∧ s' = s) ∨
    (ins = true ∧ s.cells.length = z ∧ o.r = 0 ∧ o.had = false ∧ o.code = 31 ∧ s' = s) ∨
    (ins = true ∧ s.cells.length < z ∧ o.r = r ∧ o.had = false ∧ o.code = 0 ∧ ∃ c, s' = { s with ch := s.ch.set (bkt s.hd.length k) (s.at (bkt s.hd.length k) ++ [⟨c, k, r⟩]) })))

/-- An operation alone, with at most p steps to come. -/
def Al (z : Nat) (s : Tb) (k : ByteArray) (ins : Bool) (r : Int) (p : Nat) (s' : Tb) (o : Opm) : Prop :=
  OI s' o ∧ o.k = k ∧ o.ins = ins ∧
  ((o.st = 0 ∧ o.full = false ∧ o.cell = none ∧ o.r = r ∧ s' = s ∧ (s.at (bkt s.hd.length k)).length - o.pos + 3 ≤ p) ∨
   (o.st = 1 ∧ o.cell = none ∧ o.r = r ∧ ins = true ∧ s' = s ∧ o.pos = (s.at (bkt s.hd.length k)).length ∧ 2 ≤ p) ∨
   (∃ c, o.st = 1 ∧ o.cell = some c ∧ o.r = r ∧ ins = true ∧ s' = { s with sp := [c] } ∧ s.cells.length < z ∧ o.pos = (s.at (bkt s.hd.length k)).length ∧ 1 ≤ p) ∨
   (o.st = 0 ∧ o.full = true ∧ o.cell = none ∧ ins = true ∧ s' = s ∧ o.pos = (s.at (bkt s.hd.length k)).length ∧ s.cells.length = z ∧ 1 ≤ p) ∨
   (o.st = 3 ∧ Fin z s k ins r s' o))

section
variable {z : Nat} {s : Tb} {k : ByteArray} {ins : Bool} {r : Int} {p : Nat} {s' s'' : Tb} {o o' : Opm}
theorem Al.pos (h : Al z s k ins r p s' o) (hst : o.st < 3) : 1 ≤ p := by
  obtain ⟨_, _, _, h⟩ := h
  rcases h with h | h | ⟨c, h⟩ | h | h
  · omega
  · omega
  · omega
  · omega
  · omega
theorem Al.two (h : Al z s k ins r p s' o) (hst : o.st < 3) : o.st ≠ 2 := by
  obtain ⟨_, _, _, h⟩ := h
  rcases h with h | h | ⟨c, h⟩ | h | h <;> omega
theorem Al.spare (h : Al z s k ins r p s' o) (hsp : s.sp = []) (hst : o.st < 3) : o.spare s' = false → s'.sp = [] := by
  obtain ⟨_, _, _, h⟩ := h
  intro hs
  rcases h with h | h | ⟨c, h⟩ | h | h
  · rw [h.2.2.2.2.1]; exact hsp
  · rw [h.2.2.2.2.1]; exact hsp
  · exfalso
    unfold Opm.spare at hs
    rw [h.2.1, h.2.2.2.2.1] at hs
    simp at hs
  · rw [h.2.2.2.2.1]; exact hsp
  · omega
theorem take_all {α : Type} {l : List α} {n : Nat} (h : n = l.length) : l.take n = l := by rw [h, List.take_length]

theorem Al.step (h : Al z s k ins r p s' o) (hsp : s.sp = []) (hst : o.st < 3) (hl : bkt s.hd.length k < s.ch.length) (hs : Stp z s' o s'' o') : Al z s k ins r (p - 1) s'' o' := by
  obtain ⟨hI, hk, hi, h⟩ := h
  have hch : s'.ch = s.ch ∧ s'.hd = s.hd := by
    rcases h with h | h | ⟨c, h⟩ | h | h
    · rw [h.2.2.2.2.1]; exact ⟨rfl, rfl⟩
    · rw [h.2.2.2.2.1]; exact ⟨rfl, rfl⟩
    · rw [h.2.2.2.2.1]; exact ⟨rfl, rfl⟩
    · rw [h.2.2.2.2.1]; exact ⟨rfl, rfl⟩
    · omega
  have hbo : bo s' o = bkt s.hd.length k := by unfold bo; rw [hch.2, hk]
  have hat : s'.at (bkt s.hd.length k) = s.at (bkt s.hd.length k) := by unfold Tb.at; rw [hch.1]
  have hI' := hI.step hs (by rw [hbo, hch.1]; exact hl)
  have hk' : o'.k = k := by
    rw [← hk]
    cases hs <;> try rfl
    unfold Opm.missed; split
    · rfl
    · split <;> rfl
  have hi' : o'.ins = ins := by
    rw [← hi]
    cases hs <;> try rfl
    unfold Opm.missed; split
    · rfl
    · split <;> rfl
  refine ⟨hI', hk', hi', ?_⟩
  have hno : o.pos = (s.at (bkt s.hd.length k)).length → ∀ e ∈ s.at (bkt s.hd.length k), e.k ≠ k := fun hp e he => by
    have := hI.no e
    rw [hbo, hat, take_all hp, hk] at this
    exact this he
  rcases h with ⟨a1, a2, a3, a4, a5, a6⟩ | ⟨a1, a2, a3, a4, a5, a6, a7⟩ | ⟨c, a1, a2, a3, a4, a5, a6, a7, a8⟩ | ⟨a1, a2, a3, a4, a5, a6, a7, a8⟩ | h
  · subst a5
    cases hs with
    | pass e h0 he hkk =>
      rw [hbo] at he
      have := (List.getElem?_eq_some_iff.1 he).1
      exact .inl ⟨a1, a2, a3, a4, rfl, by show _ - (o.pos + 1) + 3 ≤ _; omega⟩
    | found e h0 he hkk =>
      rw [hbo] at he
      have hn : o.spare s' = false := by unfold Opm.spare; rw [a3]
      refine .inr (.inr (.inr (.inr ⟨?_, .inl ⟨e, List.mem_of_getElem? he, by rw [hkk, hk], rfl, rfl, rfl, rfl⟩⟩)))
      show (if o.spare s' = true then 2 else 3) = 3
      rw [hn]; rfl
    | miss h0 he =>
      rw [hbo] at he
      by_cases hin : o.ins = false
      · have e1 : o.missed = o.ans 0 false 0 := by unfold Opm.missed; rw [if_pos hin]
        rw [e1]
        exact .inr (.inr (.inr (.inr ⟨rfl, .inr ⟨hno he, .inl ⟨by rw [← hi]; exact hin, rfl, rfl, rfl, rfl⟩⟩⟩)))
      · have e1 : o.missed = { o with st := 1 } := by unfold Opm.missed; rw [if_neg hin, if_neg (by rw [a2]; decide)]
        rw [e1]
        exact .inr (.inl ⟨rfl, a3, a4, by rw [← hi]; simpa using hin, rfl, he, by omega⟩)
    | take c h0 => omega
    | full h0 => omega
    | link c h0 => omega
    | late c h0 => omega
    | give c h0 => omega
  · subst a5
    have hn : o.spare s' = false := by unfold Opm.spare; rw [a2]
    cases hs with
    | pass e h0 => omega
    | found e h0 => omega
    | miss h0 => omega
    | take c h0 h1 h2 h3 =>
      refine .inr (.inr (.inl ⟨c, a1, rfl, a3, a4, ?_, h2, a6, by omega⟩))
      rw [hsp]; rfl
    | full h0 h1 h2 => exact .inr (.inr (.inr (.inl ⟨rfl, rfl, rfl, a4, rfl, a6, h2, by omega⟩)))
    | link c h0 hc => rw [a2] at hc; cases hc
    | late c h0 hc => rw [a2] at hc; cases hc
    | give c h0 => omega
  · subst a5
    have hn : o.spare ({ s with sp := [c] } : Tb) = true := by unfold Opm.spare; rw [a2]; simp
    have hat2 : ({ s with sp := [c] } : Tb).at (bkt s.hd.length k) = s.at (bkt s.hd.length k) := rfl
    cases hs with
    | pass e h0 => omega
    | found e h0 => omega
    | miss h0 => omega
    | take c h0 h1 => rw [hn] at h1; cases h1
    | full h0 h1 => rw [hn] at h1; cases h1
    | link c2 h0 hc hcs hp =>
      rw [a2] at hc
      cases hc
      refine .inr (.inr (.inr (.inr ⟨rfl, .inr ⟨hno a7, .inr (.inr ⟨a4, a6, a3, rfl, rfl, c, ?_⟩)⟩⟩)))
      unfold Tb.linked
      rw [hbo, hat2, hk, a3]
      simp [hsp]
    | late c2 h0 hc hcs hp =>
      rw [hbo, hat2] at hp
      omega
    | give c h0 => omega
  · subst a5
    cases hs with
    | pass e h0 he => rw [hbo] at he; have := (List.getElem?_eq_some_iff.1 he).1; omega
    | found e h0 he => rw [hbo] at he; have := (List.getElem?_eq_some_iff.1 he).1; omega
    | miss h0 he =>
      have e1 : o.missed = o.ans 0 false 31 := by unfold Opm.missed; rw [if_neg (by rw [hi, a4]; decide), if_pos a2]
      rw [e1]
      exact .inr (.inr (.inr (.inr ⟨rfl, .inr ⟨hno a6, .inr (.inl ⟨a4, a7, rfl, rfl, rfl, rfl⟩)⟩⟩)))
    | take c h0 => omega
    | full h0 => omega
    | link c h0 => omega
    | late c h0 => omega
    | give c h0 => omega
  · omega
end

section
variable {w : World} {K : Nat → Prop} {tb d z M : Nat} {s : Tb} {ob : Nat} {o : Opm} {k : ByteArray} {ins : Bool} {r : Int}
theorem HT.inv (h : HT w K tb d z M s) : ∃ T N, s.inv (bkt s.hd.length) T N 0 ∧ N.length = z := by
  obtain ⟨g, hb, hc, mb, sv, D, T, N, m, F, hH, hV, hz, r⟩ := h
  exact ⟨T, N, hV, hz⟩
theorem HT.up {M' : Nat} (h : HT w K tb d z M s) (hM : M ≤ M') : HT w K tb d z M' s := by
  obtain ⟨g, hb, hc, mb, sv, D, T, N, m, F, hH, hV, hz, m1, m2⟩ := h
  exact ⟨g, hb, hc, mb, sv, D, T, N, m, F, hH, hV, hz, m1, by omega⟩
theorem HT.tab (h : HT w K tb d z M s) : Tab w := by
  obtain ⟨g, hb, hc, mb, sv, D, T, N, m, F, hH, r⟩ := h
  exact hH.tab
theorem HT.kl (h : HT w K tb d z M s) : ∀ j, K j → j < w.heap.size := by
  obtain ⟨g, hb, hc, mb, sv, D, T, N, m, F, hH, r⟩ := h
  exact hH.kl

set_option maxRecDepth 100000 in
set_option maxHeartbeats 4000000 in
/-- done, of an operation alone. -/
theorem done_alone {p : Nat} {most : Nat} (h : HT w K tb d z M s) (hsp : s.sp = []) (ho : Om w ob (tp tb) o) (hob : ¬ K ob) (hA : Al z s k ins r p s o) (hst : o.st < 3) (hp : p ≤ most) (hmo : most ≤ 1000000) (hM : M < 1000000000000) :
    Calls Tryd.prog 13 #[.pointer (some ⟨ob, 0, none⟩), .int .i64 (most : Int)] w fun e w' => ∃ (n : Nat) (s' : Tb) (o' : Opm) (K' : Nat → Prop), e = .returned (.int .i64 (n : Int)) ∧ 1 ≤ n ∧ o'.st = 3 ∧ Fin z s k ins r s' o' ∧ HT w' K' tb d z (M + p) s' ∧ Om w' ob (tp tb) o' ∧ (∀ j, j < w.heap.size → (K' j ↔ K j)) ∧ Fr (fun j => K j ∨ j = ob) w w' := by
  have hl : bkt s.hd.length k < s.ch.length := by
    obtain ⟨T, N, hV, _⟩ := h.inv
    rw [hV.len]; exact bkt_lt _ hV.n1.1
  have H := hide2 h
  have HO := hide2 ho
  have HA := hide2 hA
  have hobl := ho.lt
  clear h ho hA
  go_enter Tryd.func13, Tryd.ntmps13
  go_wp2
  go_loopw [5, 6] (fun i _ wr => ∃ (n : Nat) (s' : Tb) (o' : Opm) (K' : Nat → Prop), n < p ∧ i = .int .i64 ((n : Int) + 1) ∧ Hid (o'.st < 3) ∧ Hid (Al z s k ins r (p - n) s' o') ∧ Hid (HT wr K' tb d z (M + n) s') ∧ Hid (Om wr ob (tp tb) o') ∧ Hid (∀ j, j < w.heap.size → (K' j ↔ K j)) ∧ Hid (Fr (fun j => K j ∨ j = ob) w wr)) (fun i _ _ => p + 1 - (intOf i).toNat)
  case atStart =>
    exact ⟨0, s, o, K, HA.out.pos hst, rfl, hide2 hst, HA, H, HO, hide2 (fun _ _ => Iff.rfl), hide2 (Fr.refl _ w)⟩
  case round =>
    obtain ⟨n, s', o', K', hn, rfl, ST, A, HH, OO, KK, FF⟩ := hrel
    have hnm : (n : Int) + 1 ≤ (most : Int) := by omega
    have hsz := FF.out.size
    have hob' : ¬ K' ob := fun e => hob ((KK.out ob hobl).1 e)
    have hstep := HH.out.step OO.out hob' A.out.1 ST.out (fun e => absurd e (A.out.two ST.out)) (fun e _ => A.out.spare hsp ST.out e) (by omega)
    have HS := hide2 hstep
    clear hstep
    go_wp2_with fail
    refine HS.out.mono ?_
    rintro e w1 ⟨s2, o2, K2, rfl, hS, h2, ho2, hK2, hF2⟩
    have A2 := A.out.step hsp ST.out hl hS
    have hKK : ∀ j, j < w.heap.size → (K2 j ↔ K j) := fun j hj => (hK2 j (by omega)).trans (KK.out j hj)
    have hFF : Fr (fun j => K j ∨ j = ob) w w1 := FF.out.trans hF2 (fun j e => by
      rcases e with e | e
      · rcases Nat.lt_or_ge j w.heap.size with q | q
        · exact .inl (.inl ((KK.out j q).1 e))
        · exact .inr q
      · exact .inl (.inr e))
    have HA2 := hide2 A2
    have HH2 := hide2 h2
    have HO2 := hide2 ho2
    have HKK := hide2 hKK
    have HFF := hide2 hFF
    clear HS A2 h2 ho2 hKK hFF hK2 hF2
    by_cases h3 : o2.st = 3
    · have hd : decide (o2.st = 3) = true := decide_eq_true h3
      have H3 := hide2 h3
      clear h3
      go_wp2
      go_ret
      refine ⟨n + 1, s2, o2, K2, rfl, by omega, H3.out, ?_, HH2.out.up (by omega), HO2.out, HKK.out, HFF.out⟩
      obtain ⟨_, _, _, hx⟩ := HA2.out
      have h3 := H3.out
      rcases hx with hx | hx | ⟨c, hx⟩ | hx | hx
      · omega
      · omega
      · omega
      · omega
      · exact hx.2
    · have hd : decide (o2.st = 3) = false := decide_eq_false h3
      have hlt : o2.st < 3 := by
        obtain ⟨_, _, _, hx⟩ := HA2.out
        rcases hx with hx | hx | ⟨c, hx⟩ | hx | hx <;> omega
      have HLT := hide2 hlt
      have hpp := HA2.out.pos hlt
      clear h3 hlt
      go_wp2
      go_round
      case rel => exact ⟨n + 1, s2, o2, K2, by omega, by go_num, HLT, (show Hid (Al z s k ins r (p - (n + 1)) s2 o2) from hide2 (by have := HA2.out; rwa [Nat.sub_sub] at this)), hide2 (HH2.out.up (by omega)), HO2, HKK, HFF⟩
      case measure => simp [intOf]; omega
end
end Go.Proofs.YtbpihkojmbfccaaDoor
