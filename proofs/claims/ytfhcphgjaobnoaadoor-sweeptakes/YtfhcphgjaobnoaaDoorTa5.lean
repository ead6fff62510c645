/-
  The store in memory; giveBack; whose a number is; which words may be. (Printed by gen_ta5.py.)
-/
import Derived.Test.YtfhcphgjaobnoaaDoorTa4
import Derived.Test.YtfhcphgjaobnoaaDoorWd2
set_option linter.unusedVariables false
set_option linter.unusedSimpArgs false
namespace Go.Proofs.YtfhcphgjaobnoaaDoor
open Go.RowKit Go.Maps

/-- These cells are free again. -/
def tclr (T : List Bool) (cs : List Nat) : List Bool := cs.foldl (fun t c => t.set c false) T
theorem tclr_snoc (T : List Bool) (cs : List Nat) (c : Nat) : tclr T (cs ++ [c]) = (tclr T cs).set c false := by simp [tclr]
theorem tclr_cons (T : List Bool) (cs : List Nat) (c : Nat) : tclr T (c :: cs) = tclr (T.set c false) cs := rfl
theorem tclr_at : ∀ (cs : List Nat) (T : List Bool) (j : Nat) (b : Bool), (tclr T cs).getD j b = if j ∈ cs ∧ j < T.length then false else T.getD j b
  | [], T, j, b => by simp [tclr]
  | c :: cs, T, j, b => by
    rw [tclr_cons, tclr_at cs, getD_set, List.length_set]
    by_cases h1 : j = c
    · by_cases h2 : c < T.length
      · subst h1
        simp [h2]
      · subst h1
        simp [h2]
    · simp [h1]

section
variable {w : World} {sb d g sg : Nat} {T : List Bool} {N : List Int} {m : Int} {F : List Nat}
set_option maxRecDepth 100000 in
set_option maxHeartbeats 4000000 in
theorem giveBack_any {n cap : Nat} {cs : List Nat} (hc : w.cell? ⟨sb, 0, none⟩ = some (.pointer (some ⟨d, 0, none⟩))) (hl : sb < w.heap.size) (h : Aw w d g T N m F) (hsd : sb ≠ d) (hsg : sb ≠ g)
    (hx : cs.length = n) (hn : n ≤ 1000) (hcap : n ≤ cap) (hcm : cap ≤ maxLen) (hgl : sg < w.heap.size) (hgd : sg ≠ d) (hgg : sg ≠ g) (hnum : ∀ (i c : Nat), cs[i]? = some c → w.cell? ⟨sg, i, none⟩ = some (.int .i64 (c : Int))) (hnd : cs.Nodup) (hon : ∀ c ∈ cs, T.getD c false = true) :
    Calls Tryd.prog 82 #[.pointer (some ⟨sb, 0, none⟩), .slice (some ⟨sg, 0, none⟩) n cap] w fun e w' => e = .returned (.tuple #[]) ∧ (∃ F', Aw w' d g (tclr T cs) N m F') ∧ (tclr T cs).count true + n = T.count true ∧ Fr (fun j => j = d ∨ j = g) w w' := by
  have hdl := h.ab.lt
  have hgl2 := h.nb.lt
  unfold maxLen at hcm
  have H := hide2 h
  have HNUM := hide2 hnum
  have HON := hide2 hon
  have HND := hide2 hnd
  clear h hnum hon hnd
  go_enter Tryd.func82, Tryd.ntmps82
  go_wp2
  go_loopw [8] (fun i wr => ∃ (k : Nat) (F' : List Nat), k ≤ n ∧ i = .int .i64 (k : Nat) ∧ Hid (Aw wr d g (tclr T (cs.take k)) N m F') ∧ Hid ((tclr T (cs.take k)).count true + k = T.count true) ∧ Hid (Fr (fun j => j = d ∨ j = g) w wr)) (fun i _ => n - (intOf i).toNat)
  case atStart => exact ⟨0, F, Nat.zero_le _, rfl, H, hide2 rfl, hide2 (Fr.refl _ w)⟩
  case round =>
    obtain ⟨k, F', hk, rfl, HA, HC, HF⟩ := hrel
    have hsz := HF.out.size
    have hc1 : wr.cell? ⟨sb, 0, none⟩ = some (.pointer (some ⟨d, 0, none⟩)) := (HF.out.cell (p := ⟨sb, 0, none⟩) hl (by rintro (e | e); exact hsd e; exact hsg e)).trans hc
    by_cases hkk : k < n
    · have hki3 : decide ((k : Int) < (n : Int)) = true := by simp; omega
      have hki4 : (k : Int) < (n : Int) := by omega
      obtain ⟨c, hck⟩ : ∃ c, cs[k]? = some c := ⟨_, List.getElem?_eq_getElem (by omega)⟩
      have hcx : wr.cell? ⟨sg, k, none⟩ = some (.int .i64 (c : Int)) := (HF.out.cell (p := ⟨sg, k, none⟩) hgl (by rintro (e | e); exact hgd e; exact hgg e)).trans (HNUM.out k c hck)
      have htk : cs.take (k + 1) = cs.take k ++ [c] := by rw [List.take_add_one, hck]; rfl
      have hcn : c ∉ cs.take k := fun q => by
        obtain ⟨i, hi, e⟩ := List.getElem_of_mem q
        rw [List.length_take] at hi
        rw [List.getElem_take] at e
        have := (List.getElem?_inj (h₀ := (by omega : i < cs.length)) HND.out).1 ((List.getElem?_eq_getElem (by omega : i < cs.length)).trans (by rw [e, hck]))
        omega
      have hon := HON.out c (List.mem_of_getElem? hck)
      have hcl := getD_lt hon
      have hat := tclr_at (cs.take k) T c
      have ht1 : (tclr T (cs.take k)).getD c false = true := by rw [hat, if_neg (fun q => hcn q.1)]; exact hon
      have hct : tk (tclr T (cs.take k)) (c : Int) = true := by
        unfold tk
        rw [Int.toNat_natCast, ht1]
        simp
      have hfr := Free_in HA.out c hct
      rw [← tclr_snoc, ← htk] at hfr
      have ht2 : (tclr T (cs.take k)).getD c true = true := by
        rw [hat, if_neg (fun q => hcn q.1)]
        simp only [List.getD, List.getElem?_eq_getElem hcl] at hon ⊢
        exact hon
      have hcnt := count_off (getD_lt ht1) ht2
      rw [← tclr_snoc, ← htk] at hcnt
      have HFR := hide2 hfr
      have HC2 : Hid ((tclr T (cs.take (k + 1))).count true + (k + 1) = T.count true) := hide2 (by have := HC.out; omega)
      clear hck htk hcn hon hcl hat ht1 hct hfr ht2 hcnt HC
      go_wp2_with fail
      refine HFR.out.mono ?_
      rintro e w1 ⟨rfl, hA1, hF1⟩
      have HA1 := hide2 hA1
      have HF1 : Hid (Fr (fun j => j = d ∨ j = g) w w1) := hide2 (HF.out.trans hF1 (fun j e => .inl e))
      clear hA1 hF1 HFR
      go_wp2
      go_roundw
      case rel => exact ⟨k + 1, _, by omega, by go_num, HA1, HC2, HF1⟩
      case measure => simp [intOf]; omega
    · have hki3 : decide ((k : Int) < (n : Int)) = false := by simp; omega
      have hki4 : ¬ (k : Int) < (n : Int) := by omega
      have hkn : cs.take k = cs := List.take_of_length_le (by omega)
      have HA2 : Hid (Aw wr d g (tclr T cs) N m F') := hide2 (by have := HA.out; rw [hkn] at this; exact this)
      have HC2 : Hid ((tclr T cs).count true + n = T.count true) := hide2 (by have := HC.out; rw [hkn] at this; omega)
      clear hkn
      go_wp2
      go_end0
      exact ⟨rfl, ⟨_, HA2.out⟩, HC2.out, HF.out⟩
end

/-! ### the store -/
def ndV (pl : Nat → Nat → Nat) (n : Nat) : Value := .agg #[.int .i64 (pl 0 n : Int), .int .i64 (pl 1 n : Int)]
def vrV (pl : Nat → Nat → Nat) (tx : Nat → ByteArray) (n : Nat) : Value := .agg #[.string (tx n), .int .i64 (pl 2 n : Int), .int .i64 (pl 3 n : Int), .int .i64 (pl 4 n : Int)]
def txV (pl : Nat → Nat → Nat) (n : Nat) : Value := .int .i64 (pl 5 n : Int)
def lvk (A : Stt) (k n : Nat) : Bool := decide (k < 6) && A.lv (cls k) n
theorem lvk_of {A : Stt} {k n : Nat} (hk : k < 6) (h : A.lv (cls k) n = true) : lvk A k n = true := by simp [lvk, hk, h]

/-- A store in memory: its own blocks are among K's. -/
structure Sm (w : World) (K : Nat → Prop) (sb d g : Nat) (m0 m1 m2 : Option Nat) (T : List Bool) (N : List Int) (m : Int) (F : List Nat) (own : Nat → Option (Nat × Nat)) (pl : Nat → Nat → Nat) (k1 : Nat) (A : Stt) : Prop where
  aw : Aw w d g T N m F
  st : Sb w sb d (A.la 0) m0 (A.la 1) m1 (A.la 2) m2
  p0 : ∃ k, Mp w m0 (fOf (A.lv 0) (ndV pl)) (A.la 0) k
  p1 : Mp w m1 (fOf (A.lv 1) (vrV pl A.tx)) (A.la 1) k1
  p2 : ∃ k, Mp w m2 (fOf (A.lv 2) (txV pl)) (A.la 2) k
  ok : A.ok
  pc : Plc (lvk A) A.va T N own pl
  ct : ∀ l : List Nat, l.Nodup → (∀ n ∈ l, A.lv 1 n = true) → l.length ≤ k1
  tab : Tab w
  k0 : ¬ K 0
  kk : ∀ j, (j = sb ∨ j = d ∨ j = g ∨ m0 = some j ∨ m1 = some j ∨ m2 = some j) → K j
  kl : ∀ j, K j → j < w.heap.size
  a1 : ∀ j, m0 = some j → m1 ≠ some j ∧ m2 ≠ some j
  a2 : ∀ j, m1 = some j → m2 ≠ some j

section
variable {w w' : World} {K : Nat → Prop} {sb d g : Nat} {m0 m1 m2 : Option Nat} {T : List Bool} {N : List Int} {m : Int} {F : List Nat} {own : Nat → Option (Nat × Nat)} {pl : Nat → Nat → Nat} {k1 : Nat} {A : Stt}
theorem Sm.keep {G : Nat → Prop} (h : Sm w K sb d g m0 m1 m2 T N m F own pl k1 A) (hF : Fr G w w') (hG : ∀ j, K j → ¬ G j) (h0 : ¬ G 0) : Sm w' K sb d g m0 m1 m2 T N m F own pl k1 A := by
  obtain ⟨q0, e0⟩ := h.p0
  obtain ⟨q2, e2⟩ := h.p2
  exact { h with
    aw := h.aw.fr hF (hG d (h.kk d (by simp))) (hG g (h.kk g (by simp)))
    st := h.st.same (hF.block _ h.st.lt (hG sb (h.kk sb (by simp))))
    p0 := ⟨q0, e0.fr hF (fun j e => hG j (h.kk j (by simp [e])))⟩
    p1 := h.p1.fr hF (fun j e => hG j (h.kk j (by simp [e])))
    p2 := ⟨q2, e2.fr hF (fun j e => hG j (h.kk j (by simp [e])))⟩
    tab := h.tab.fr hF h0
    kl := fun j hj => Nat.lt_of_lt_of_le (h.kl j hj) hF.size }
theorem Sm.below (h : Sm w K sb d g m0 m1 m2 T N m F own pl k1 A) (hb : Below w.heap.size w w') : Sm w' K sb d g m0 m1 m2 T N m F own pl k1 A := h.keep (G := fun _ => False) (Fr.below hb) (fun _ _ e => e) (fun e => e)
theorem Sm.nsd (h : Sm w K sb d g m0 m1 m2 T N m F own pl k1 A) : sb ≠ d := by
  rintro rfl
  have h1 := h.aw.ab.2.2
  have h2 := h.st
  unfold Sb at h2
  rw [h1] at h2
  simp at h2
theorem Sm.nsg (h : Sm w K sb d g m0 m1 m2 T N m F own pl k1 A) : sb ≠ g := by
  rintro rfl
  have h1 := h.aw.nb
  have h2 := h.st
  unfold Nb at h1
  unfold Sb at h2
  rw [h1] at h2
  simp at h2
theorem Sm.nsm (h : Sm w K sb d g m0 m1 m2 T N m F own pl k1 A) : (∀ j, m0 = some j → sb ≠ j ∧ d ≠ j ∧ g ≠ j) ∧ (∀ j, m1 = some j → sb ≠ j ∧ d ≠ j ∧ g ≠ j) ∧ (∀ j, m2 = some j → sb ≠ j ∧ d ≠ j ∧ g ≠ j) := by
  have key : ∀ j, (∃ es clock, w.heap[j]? = some (.map es clock)) → sb ≠ j ∧ d ≠ j ∧ g ≠ j := by
    rintro j ⟨es, clock, hb⟩
    refine ⟨?_, ?_, ?_⟩
    · rintro rfl
      have h2 := h.st
      unfold Sb at h2
      rw [hb] at h2
      cases h2
    · rintro rfl
      have h1 := h.aw.ab.2.2
      rw [hb] at h1
      simp at h1
    · rintro rfl
      have h1 := h.aw.nb
      unfold Nb at h1
      rw [hb] at h1
      cases h1
  obtain ⟨q0, e0⟩ := h.p0
  obtain ⟨q2, e2⟩ := h.p2
  exact ⟨fun j e => key j (e0.kind e), fun j e => key j (h.p1.kind e), fun j e => key j (e2.kind e)⟩
/-- The arena's own change. -/
theorem Sm.arena {T' : List Bool} {N' : List Int} {m' : Int} {F' : List Nat} {own' : Nat → Option (Nat × Nat)} {A' : Stt} (h : Sm w K sb d g m0 m1 m2 T N m F own pl k1 A) (hF : Fr (fun j => j = d ∨ j = g) w w') (hA : Aw w' d g T' N' m' F')
    (hok : A'.ok) (hpc : Plc (lvk A') A'.va T' N' own' pl) (e1 : A'.la = A.la) (e2 : A'.lv = A.lv) (e3 : A'.tx = A.tx) : Sm w' K sb d g m0 m1 m2 T' N' m' F' own' pl k1 A' := by
  obtain ⟨q0, f0⟩ := h.p0
  obtain ⟨q2, f2⟩ := h.p2
  obtain ⟨s0, s1, s2⟩ := h.nsm
  have hd0 : d ≠ 0 := fun e => h.k0 (e ▸ h.kk d (by simp))
  have hg0 : g ≠ 0 := fun e => h.k0 (e ▸ h.kk g (by simp))
  refine ⟨hA, by rw [e1]; exact h.st.same (hF.block _ h.st.lt (by rintro (e | e); exact h.nsd e; exact h.nsg e)), ⟨q0, by rw [e1, e2]; exact f0.fr hF (fun j e q => by have := s0 j e; omega)⟩, by rw [e1, e2, e3]; exact h.p1.fr hF (fun j e q => by have := s1 j e; omega), ⟨q2, by rw [e1, e2]; exact f2.fr hF (fun j e q => by have := s2 j e; omega)⟩, hok, hpc, by rw [e2]; exact h.ct, h.tab.fr hF (by omega), h.k0, h.kk, fun j hj => Nat.lt_of_lt_of_le (h.kl j hj) hF.size, h.a1, h.a2⟩
theorem isNone_any (hc : w.cell? ⟨sb, 0, none⟩ = some (.pointer (some ⟨d, 0, none⟩))) : Calls Tryd.prog 52 #[.pointer (some ⟨sb, 0, none⟩)] w fun e w' => e = .returned (.bool false) ∧ w' = w := by
  go_enter Tryd.func52, Tryd.ntmps52
  go_wp2
  go_ret
  exact ⟨rfl, rfl⟩
theorem isNone_nil : Calls Tryd.prog 52 #[.pointer none] w fun e w' => e = .returned (.bool true) ∧ w' = w := by
  go_enter Tryd.func52, Tryd.ntmps52
  go_wp2
  go_ret
  exact ⟨rfl, rfl⟩
set_option maxRecDepth 100000 in
set_option maxHeartbeats 4000000 in
theorem nodeOf_in (h : Sm w K sb d g m0 m1 m2 T N m F own pl k1 A) {n : Nat} (hn : A.lv 0 n = true) (hb : n < 1000000000) :
    Calls Tryd.prog 50 #[.pointer (some ⟨sb, 0, none⟩), .int .i64 (n : Int)] w fun e w' => e = .returned (.tuple #[.agg #[.int .i64 (pl 0 n : Int), .int .i64 (pl 1 n : Int)], .int .i64 0]) ∧ Below w.heap.size w w' := by
  obtain ⟨W, hW⟩ : ∃ x, x = (w.alloc (.cells #[.int .i64 0, .int .i64 0] 91)) := ⟨_, rfl⟩
  have hbW : Below w.heap.size w W := by rw [hW]; exact ((Below.refl w.heap.size w).alloc (Nat.le_refl _) (.cells #[.int .i64 0, .int .i64 0] 91))
  have h1W := h.below hbW
  have hcl := h1W.st.cells
  have hlt := h1W.st.lt
  obtain ⟨q, hm⟩ := h1W.p0
  have HI := hide2 (isNone_any (w := W) hcl.1)
  have HFD := hide2 (findN_in hlt hcl.2.2.1 hm (by omega) (by omega) (fOf_in hn))
  have HBW := hide2 hbW
  have hlt0 := h.st.lt
  clear hcl hm h1W h hbW hn
  have zb : W.heap[w.heap.size]? = some (.cells #[.int .i64 0, .int .i64 0] 91 (0, 0)) := by rw [hW]; exact heap_alloc_new w _
  have hsW : W.heap.size = w.heap.size + 1 := by rw [hW]; simp
  have ZB := hide2 zb
  clear zb
  go_enter Tryd.func50, Tryd.ntmps50
  go_wp2_with fail
  rw [← hW]
  clear hW
  refine HI.out.mono ?_
  rintro e w1 ⟨rfl, q1⟩
  subst q1
  clear HI
  go_wp2_with fail
  refine HFD.out.mono ?_
  rintro e w2 ⟨rfl, hb2⟩
  have zb : w2.heap[w.heap.size]? = some (.cells #[.int .i64 0, .int .i64 0] 91 (0, 0)) := (hb2.block _ (by omega)).trans ZB.out
  have z0 : w2.cell? ⟨w.heap.size, 0, none⟩ = some (.int .i64 0) := by rw [Go.Joins.cell_of_block zb]; rfl
  have f0 := Go.Joins.unfrozen_of_block zb 0
  have z1 : w2.cell? ⟨w.heap.size, 1, none⟩ = some (.int .i64 0) := by rw [Go.Joins.cell_of_block zb]; rfl
  have f1 := Go.Joins.unfrozen_of_block zb 1
  have a0 : (w2.setCell ⟨w.heap.size, 0, none⟩ (.int .i64 (pl 0 n : Int))).heap[w.heap.size]? = some (.cells #[.int .i64 (pl 0 n : Int), .int .i64 0] 91 (0, 0)) := by rw [Go.Joins.block_setCell zb]; rfl
  have a1 : ((w2.setCell ⟨w.heap.size, 0, none⟩ (.int .i64 (pl 0 n : Int))).setCell ⟨w.heap.size, 1, none⟩ (.int .i64 (pl 1 n : Int))).heap[w.heap.size]? = some (.cells #[.int .i64 (pl 0 n : Int), .int .i64 (pl 1 n : Int)] 91 (0, 0)) := by rw [Go.Joins.block_setCell a0]; rfl
  have y0 : ((w2.setCell ⟨w.heap.size, 0, none⟩ (.int .i64 (pl 0 n : Int))).setCell ⟨w.heap.size, 1, none⟩ (.int .i64 (pl 1 n : Int))).cell? ⟨w.heap.size, 0, none⟩ = some (.int .i64 (pl 0 n : Int)) := by rw [Go.Joins.cell_of_block a1]; rfl
  have y1 : ((w2.setCell ⟨w.heap.size, 0, none⟩ (.int .i64 (pl 0 n : Int))).setCell ⟨w.heap.size, 1, none⟩ (.int .i64 (pl 1 n : Int))).cell? ⟨w.heap.size, 1, none⟩ = some (.int .i64 (pl 1 n : Int)) := by rw [Go.Joins.cell_of_block a1]; rfl
  have HB2 := hide2 hb2
  have hs2 := hb2.size
  clear HFD hb2 ZB a0 a1
  go_wp2
  refine bodyPost_ret (v := .tuple #[.agg #[.int .i64 (pl 0 n : Int), .int .i64 (pl 1 n : Int)], .int .i64 0]) (by simp [results, Tryd.results50, go_sem, y0, y1]) rfl ⟨rfl, ?_⟩
  have hB2 := HB2.out
  have hB := HBW.out
  have hall : Below w.heap.size w w2 := hB.trans ⟨hB2.os, hB2.tape, hB2.output, hB2.size, fun j hj => hB2.block j (by omega)⟩
  exact (((Fr.below (F := fun _ => False) hall).setCell (p := ⟨w.heap.size, 0, none⟩) (.inr (Nat.le_refl _)) _).setCell (p := ⟨w.heap.size, 1, none⟩) (.inr (Nat.le_refl _)) _).to (fun _ _ e => e) (Nat.le_refl _)
set_option maxRecDepth 100000 in
set_option maxHeartbeats 4000000 in
theorem nodeOf_out (h : Sm w K sb d g m0 m1 m2 T N m F own pl k1 A) {n : Int} (h1 : -9223372036854775808 ≤ n) (h2 : n ≤ 9223372036854775807) (hn : n < 0 ∨ A.lv 0 n.toNat = false) :
    Calls Tryd.prog 50 #[.pointer (some ⟨sb, 0, none⟩), .int .i64 n] w fun e w' => e = .returned (.tuple #[.agg #[.int .i64 0, .int .i64 0], .int .i64 110]) ∧ Below w.heap.size w w' := by
  obtain ⟨W, hW⟩ : ∃ x, x = (w.alloc (.cells #[.int .i64 0, .int .i64 0] 91)) := ⟨_, rfl⟩
  have hbW : Below w.heap.size w W := by rw [hW]; exact ((Below.refl w.heap.size w).alloc (Nat.le_refl _) (.cells #[.int .i64 0, .int .i64 0] 91))
  have h1W := h.below hbW
  have hcl := h1W.st.cells
  have hlt := h1W.st.lt
  obtain ⟨q, hm⟩ := h1W.p0
  have HI := hide2 (isNone_any (w := W) hcl.1)
  have HFD := hide2 (findN_out hlt hcl.2.2.1 hm h1 h2 (fOf_out hn))
  have HBW := hide2 hbW
  have hlt0 := h.st.lt
  clear hcl hm h1W h hbW hn
  have zb : W.heap[w.heap.size]? = some (.cells #[.int .i64 0, .int .i64 0] 91 (0, 0)) := by rw [hW]; exact heap_alloc_new w _
  have hsW : W.heap.size = w.heap.size + 1 := by rw [hW]; simp
  have ZB := hide2 zb
  clear zb
  go_enter Tryd.func50, Tryd.ntmps50
  go_wp2_with fail
  rw [← hW]
  clear hW
  refine HI.out.mono ?_
  rintro e w1 ⟨rfl, q1⟩
  subst q1
  clear HI
  go_wp2_with fail
  refine HFD.out.mono ?_
  rintro e w2 ⟨rfl, hb2⟩
  have zb : w2.heap[w.heap.size]? = some (.cells #[.int .i64 0, .int .i64 0] 91 (0, 0)) := (hb2.block _ (by omega)).trans ZB.out
  have z0 : w2.cell? ⟨w.heap.size, 0, none⟩ = some (.int .i64 0) := by rw [Go.Joins.cell_of_block zb]; rfl
  have f0 := Go.Joins.unfrozen_of_block zb 0
  have z1 : w2.cell? ⟨w.heap.size, 1, none⟩ = some (.int .i64 0) := by rw [Go.Joins.cell_of_block zb]; rfl
  have f1 := Go.Joins.unfrozen_of_block zb 1
  have a0 : (w2.setCell ⟨w.heap.size, 0, none⟩ (.int .i64 0)).heap[w.heap.size]? = some (.cells #[.int .i64 0, .int .i64 0] 91 (0, 0)) := by rw [Go.Joins.block_setCell zb]; rfl
  have a1 : ((w2.setCell ⟨w.heap.size, 0, none⟩ (.int .i64 0)).setCell ⟨w.heap.size, 1, none⟩ (.int .i64 0)).heap[w.heap.size]? = some (.cells #[.int .i64 0, .int .i64 0] 91 (0, 0)) := by rw [Go.Joins.block_setCell a0]; rfl
  have y0 : ((w2.setCell ⟨w.heap.size, 0, none⟩ (.int .i64 0)).setCell ⟨w.heap.size, 1, none⟩ (.int .i64 0)).cell? ⟨w.heap.size, 0, none⟩ = some (.int .i64 0) := by rw [Go.Joins.cell_of_block a1]; rfl
  have y1 : ((w2.setCell ⟨w.heap.size, 0, none⟩ (.int .i64 0)).setCell ⟨w.heap.size, 1, none⟩ (.int .i64 0)).cell? ⟨w.heap.size, 1, none⟩ = some (.int .i64 0) := by rw [Go.Joins.cell_of_block a1]; rfl
  have HB2 := hide2 hb2
  have hs2 := hb2.size
  clear HFD hb2 ZB a0 a1
  go_wp2
  refine bodyPost_ret (v := .tuple #[.agg #[.int .i64 0, .int .i64 0], .int .i64 110]) (by simp [results, Tryd.results50, go_sem, y0, y1]) rfl ⟨rfl, ?_⟩
  have hB2 := HB2.out
  have hB := HBW.out
  have hall : Below w.heap.size w w2 := hB.trans ⟨hB2.os, hB2.tape, hB2.output, hB2.size, fun j hj => hB2.block j (by omega)⟩
  exact (((Fr.below (F := fun _ => False) hall).setCell (p := ⟨w.heap.size, 0, none⟩) (.inr (Nat.le_refl _)) _).setCell (p := ⟨w.heap.size, 1, none⟩) (.inr (Nat.le_refl _)) _).to (fun _ _ e => e) (Nat.le_refl _)
set_option maxRecDepth 100000 in
set_option maxHeartbeats 4000000 in
theorem nodeOf_nil (n : Int) :
    Calls Tryd.prog 50 #[.pointer none, .int .i64 n] w fun e w' => e = .returned (.tuple #[.agg #[.int .i64 0, .int .i64 0], .int .i64 1]) ∧ Below w.heap.size w w' := by
  have HI := hide2 (fun u : World => isNone_nil (w := u))
  go_enter Tryd.func50, Tryd.ntmps50
  go_wp2_with fail
  refine (HI.out _).mono ?_
  rintro e w1 ⟨rfl, q1⟩
  subst q1
  clear HI
  go_wp2
  refine bodyPost_ret (v := .tuple #[.agg #[.int .i64 0, .int .i64 0], .int .i64 1]) (by simp [results, Tryd.results50, go_sem]) rfl ⟨rfl, ?_⟩
  exact (Below.refl _ _).alloc (Nat.le_refl _) _
set_option maxRecDepth 100000 in
set_option maxHeartbeats 4000000 in
theorem versionOf_in (h : Sm w K sb d g m0 m1 m2 T N m F own pl k1 A) {n : Nat} (hn : A.lv 1 n = true) (hb : n < 1000000000) :
    Calls Tryd.prog 65 #[.pointer (some ⟨sb, 0, none⟩), .int .i64 (n : Int)] w fun e w' => e = .returned (.tuple #[.agg #[.string (A.tx n), .int .i64 (pl 2 n : Int), .int .i64 (pl 3 n : Int), .int .i64 (pl 4 n : Int)], .int .i64 0]) ∧ Below w.heap.size w w' := by
  obtain ⟨W, hW⟩ : ∃ x, x = (w.alloc (.cells #[.string ⟨#[]⟩, .int .i64 0, .int .i64 0, .int .i64 0] 106)) := ⟨_, rfl⟩
  have hbW : Below w.heap.size w W := by rw [hW]; exact ((Below.refl w.heap.size w).alloc (Nat.le_refl _) (.cells #[.string ⟨#[]⟩, .int .i64 0, .int .i64 0, .int .i64 0] 106))
  have h1W := h.below hbW
  have hcl := h1W.st.cells
  have hlt := h1W.st.lt
  have hm := h1W.p1
  have HI := hide2 (isNone_any (w := W) hcl.1)
  have HFD := hide2 (findV_in hlt hcl.2.2.2.2.1 hm (by omega) (by omega) (fOf_in hn))
  have HBW := hide2 hbW
  have hlt0 := h.st.lt
  clear hcl hm h1W h hbW hn
  have zb : W.heap[w.heap.size]? = some (.cells #[.string ⟨#[]⟩, .int .i64 0, .int .i64 0, .int .i64 0] 106 (0, 0)) := by rw [hW]; exact heap_alloc_new w _
  have hsW : W.heap.size = w.heap.size + 1 := by rw [hW]; simp
  have ZB := hide2 zb
  clear zb
  go_enter Tryd.func65, Tryd.ntmps65
  go_wp2_with fail
  rw [← hW]
  clear hW
  refine HI.out.mono ?_
  rintro e w1 ⟨rfl, q1⟩
  subst q1
  clear HI
  go_wp2_with fail
  refine HFD.out.mono ?_
  rintro e w2 ⟨rfl, hb2⟩
  have zb : w2.heap[w.heap.size]? = some (.cells #[.string ⟨#[]⟩, .int .i64 0, .int .i64 0, .int .i64 0] 106 (0, 0)) := (hb2.block _ (by omega)).trans ZB.out
  have z0 : w2.cell? ⟨w.heap.size, 0, none⟩ = some (.string ⟨#[]⟩) := by rw [Go.Joins.cell_of_block zb]; rfl
  have f0 := Go.Joins.unfrozen_of_block zb 0
  have z1 : w2.cell? ⟨w.heap.size, 1, none⟩ = some (.int .i64 0) := by rw [Go.Joins.cell_of_block zb]; rfl
  have f1 := Go.Joins.unfrozen_of_block zb 1
  have z2 : w2.cell? ⟨w.heap.size, 2, none⟩ = some (.int .i64 0) := by rw [Go.Joins.cell_of_block zb]; rfl
  have f2 := Go.Joins.unfrozen_of_block zb 2
  have z3 : w2.cell? ⟨w.heap.size, 3, none⟩ = some (.int .i64 0) := by rw [Go.Joins.cell_of_block zb]; rfl
  have f3 := Go.Joins.unfrozen_of_block zb 3
  have a0 : (w2.setCell ⟨w.heap.size, 0, none⟩ (.string (A.tx n))).heap[w.heap.size]? = some (.cells #[.string (A.tx n), .int .i64 0, .int .i64 0, .int .i64 0] 106 (0, 0)) := by rw [Go.Joins.block_setCell zb]; rfl
  have a1 : ((w2.setCell ⟨w.heap.size, 0, none⟩ (.string (A.tx n))).setCell ⟨w.heap.size, 1, none⟩ (.int .i64 (pl 2 n : Int))).heap[w.heap.size]? = some (.cells #[.string (A.tx n), .int .i64 (pl 2 n : Int), .int .i64 0, .int .i64 0] 106 (0, 0)) := by rw [Go.Joins.block_setCell a0]; rfl
  have a2 : (((w2.setCell ⟨w.heap.size, 0, none⟩ (.string (A.tx n))).setCell ⟨w.heap.size, 1, none⟩ (.int .i64 (pl 2 n : Int))).setCell ⟨w.heap.size, 2, none⟩ (.int .i64 (pl 3 n : Int))).heap[w.heap.size]? = some (.cells #[.string (A.tx n), .int .i64 (pl 2 n : Int), .int .i64 (pl 3 n : Int), .int .i64 0] 106 (0, 0)) := by rw [Go.Joins.block_setCell a1]; rfl
  have a3 : ((((w2.setCell ⟨w.heap.size, 0, none⟩ (.string (A.tx n))).setCell ⟨w.heap.size, 1, none⟩ (.int .i64 (pl 2 n : Int))).setCell ⟨w.heap.size, 2, none⟩ (.int .i64 (pl 3 n : Int))).setCell ⟨w.heap.size, 3, none⟩ (.int .i64 (pl 4 n : Int))).heap[w.heap.size]? = some (.cells #[.string (A.tx n), .int .i64 (pl 2 n : Int), .int .i64 (pl 3 n : Int), .int .i64 (pl 4 n : Int)] 106 (0, 0)) := by rw [Go.Joins.block_setCell a2]; rfl
  have y0 : ((((w2.setCell ⟨w.heap.size, 0, none⟩ (.string (A.tx n))).setCell ⟨w.heap.size, 1, none⟩ (.int .i64 (pl 2 n : Int))).setCell ⟨w.heap.size, 2, none⟩ (.int .i64 (pl 3 n : Int))).setCell ⟨w.heap.size, 3, none⟩ (.int .i64 (pl 4 n : Int))).cell? ⟨w.heap.size, 0, none⟩ = some (.string (A.tx n)) := by rw [Go.Joins.cell_of_block a3]; rfl
  have y1 : ((((w2.setCell ⟨w.heap.size, 0, none⟩ (.string (A.tx n))).setCell ⟨w.heap.size, 1, none⟩ (.int .i64 (pl 2 n : Int))).setCell ⟨w.heap.size, 2, none⟩ (.int .i64 (pl 3 n : Int))).setCell ⟨w.heap.size, 3, none⟩ (.int .i64 (pl 4 n : Int))).cell? ⟨w.heap.size, 1, none⟩ = some (.int .i64 (pl 2 n : Int)) := by rw [Go.Joins.cell_of_block a3]; rfl
  have y2 : ((((w2.setCell ⟨w.heap.size, 0, none⟩ (.string (A.tx n))).setCell ⟨w.heap.size, 1, none⟩ (.int .i64 (pl 2 n : Int))).setCell ⟨w.heap.size, 2, none⟩ (.int .i64 (pl 3 n : Int))).setCell ⟨w.heap.size, 3, none⟩ (.int .i64 (pl 4 n : Int))).cell? ⟨w.heap.size, 2, none⟩ = some (.int .i64 (pl 3 n : Int)) := by rw [Go.Joins.cell_of_block a3]; rfl
  have y3 : ((((w2.setCell ⟨w.heap.size, 0, none⟩ (.string (A.tx n))).setCell ⟨w.heap.size, 1, none⟩ (.int .i64 (pl 2 n : Int))).setCell ⟨w.heap.size, 2, none⟩ (.int .i64 (pl 3 n : Int))).setCell ⟨w.heap.size, 3, none⟩ (.int .i64 (pl 4 n : Int))).cell? ⟨w.heap.size, 3, none⟩ = some (.int .i64 (pl 4 n : Int)) := by rw [Go.Joins.cell_of_block a3]; rfl
  have HB2 := hide2 hb2
  have hs2 := hb2.size
  clear HFD hb2 ZB a0 a1 a2 a3
  go_wp2
  refine bodyPost_ret (v := .tuple #[.agg #[.string (A.tx n), .int .i64 (pl 2 n : Int), .int .i64 (pl 3 n : Int), .int .i64 (pl 4 n : Int)], .int .i64 0]) (by simp [results, Tryd.results65, go_sem, y0, y1, y2, y3]) rfl ⟨rfl, ?_⟩
  have hB2 := HB2.out
  have hB := HBW.out
  have hall : Below w.heap.size w w2 := hB.trans ⟨hB2.os, hB2.tape, hB2.output, hB2.size, fun j hj => hB2.block j (by omega)⟩
  exact (((((Fr.below (F := fun _ => False) hall).setCell (p := ⟨w.heap.size, 0, none⟩) (.inr (Nat.le_refl _)) _).setCell (p := ⟨w.heap.size, 1, none⟩) (.inr (Nat.le_refl _)) _).setCell (p := ⟨w.heap.size, 2, none⟩) (.inr (Nat.le_refl _)) _).setCell (p := ⟨w.heap.size, 3, none⟩) (.inr (Nat.le_refl _)) _).to (fun _ _ e => e) (Nat.le_refl _)
set_option maxRecDepth 100000 in
set_option maxHeartbeats 4000000 in
theorem versionOf_out (h : Sm w K sb d g m0 m1 m2 T N m F own pl k1 A) {n : Int} (h1 : -9223372036854775808 ≤ n) (h2 : n ≤ 9223372036854775807) (hn : n < 0 ∨ A.lv 1 n.toNat = false) :
    Calls Tryd.prog 65 #[.pointer (some ⟨sb, 0, none⟩), .int .i64 n] w fun e w' => e = .returned (.tuple #[.agg #[.string ⟨#[]⟩, .int .i64 0, .int .i64 0, .int .i64 0], .int .i64 110]) ∧ Below w.heap.size w w' := by
  obtain ⟨W, hW⟩ : ∃ x, x = (w.alloc (.cells #[.string ⟨#[]⟩, .int .i64 0, .int .i64 0, .int .i64 0] 106)) := ⟨_, rfl⟩
  have hbW : Below w.heap.size w W := by rw [hW]; exact ((Below.refl w.heap.size w).alloc (Nat.le_refl _) (.cells #[.string ⟨#[]⟩, .int .i64 0, .int .i64 0, .int .i64 0] 106))
  have h1W := h.below hbW
  have hcl := h1W.st.cells
  have hlt := h1W.st.lt
  have hm := h1W.p1
  have HI := hide2 (isNone_any (w := W) hcl.1)
  have HFD := hide2 (findV_out hlt hcl.2.2.2.2.1 hm h1 h2 (fOf_out hn))
  have HBW := hide2 hbW
  have hlt0 := h.st.lt
  clear hcl hm h1W h hbW hn
  have zb : W.heap[w.heap.size]? = some (.cells #[.string ⟨#[]⟩, .int .i64 0, .int .i64 0, .int .i64 0] 106 (0, 0)) := by rw [hW]; exact heap_alloc_new w _
  have hsW : W.heap.size = w.heap.size + 1 := by rw [hW]; simp
  have ZB := hide2 zb
  clear zb
  go_enter Tryd.func65, Tryd.ntmps65
  go_wp2_with fail
  rw [← hW]
  clear hW
  refine HI.out.mono ?_
  rintro e w1 ⟨rfl, q1⟩
  subst q1
  clear HI
  go_wp2_with fail
  refine HFD.out.mono ?_
  rintro e w2 ⟨rfl, hb2⟩
  have zb : w2.heap[w.heap.size]? = some (.cells #[.string ⟨#[]⟩, .int .i64 0, .int .i64 0, .int .i64 0] 106 (0, 0)) := (hb2.block _ (by omega)).trans ZB.out
  have z0 : w2.cell? ⟨w.heap.size, 0, none⟩ = some (.string ⟨#[]⟩) := by rw [Go.Joins.cell_of_block zb]; rfl
  have f0 := Go.Joins.unfrozen_of_block zb 0
  have z1 : w2.cell? ⟨w.heap.size, 1, none⟩ = some (.int .i64 0) := by rw [Go.Joins.cell_of_block zb]; rfl
  have f1 := Go.Joins.unfrozen_of_block zb 1
  have z2 : w2.cell? ⟨w.heap.size, 2, none⟩ = some (.int .i64 0) := by rw [Go.Joins.cell_of_block zb]; rfl
  have f2 := Go.Joins.unfrozen_of_block zb 2
  have z3 : w2.cell? ⟨w.heap.size, 3, none⟩ = some (.int .i64 0) := by rw [Go.Joins.cell_of_block zb]; rfl
  have f3 := Go.Joins.unfrozen_of_block zb 3
  have a0 : (w2.setCell ⟨w.heap.size, 0, none⟩ (.string ⟨#[]⟩)).heap[w.heap.size]? = some (.cells #[.string ⟨#[]⟩, .int .i64 0, .int .i64 0, .int .i64 0] 106 (0, 0)) := by rw [Go.Joins.block_setCell zb]; rfl
  have a1 : ((w2.setCell ⟨w.heap.size, 0, none⟩ (.string ⟨#[]⟩)).setCell ⟨w.heap.size, 1, none⟩ (.int .i64 0)).heap[w.heap.size]? = some (.cells #[.string ⟨#[]⟩, .int .i64 0, .int .i64 0, .int .i64 0] 106 (0, 0)) := by rw [Go.Joins.block_setCell a0]; rfl
  have a2 : (((w2.setCell ⟨w.heap.size, 0, none⟩ (.string ⟨#[]⟩)).setCell ⟨w.heap.size, 1, none⟩ (.int .i64 0)).setCell ⟨w.heap.size, 2, none⟩ (.int .i64 0)).heap[w.heap.size]? = some (.cells #[.string ⟨#[]⟩, .int .i64 0, .int .i64 0, .int .i64 0] 106 (0, 0)) := by rw [Go.Joins.block_setCell a1]; rfl
  have a3 : ((((w2.setCell ⟨w.heap.size, 0, none⟩ (.string ⟨#[]⟩)).setCell ⟨w.heap.size, 1, none⟩ (.int .i64 0)).setCell ⟨w.heap.size, 2, none⟩ (.int .i64 0)).setCell ⟨w.heap.size, 3, none⟩ (.int .i64 0)).heap[w.heap.size]? = some (.cells #[.string ⟨#[]⟩, .int .i64 0, .int .i64 0, .int .i64 0] 106 (0, 0)) := by rw [Go.Joins.block_setCell a2]; rfl
  have y0 : ((((w2.setCell ⟨w.heap.size, 0, none⟩ (.string ⟨#[]⟩)).setCell ⟨w.heap.size, 1, none⟩ (.int .i64 0)).setCell ⟨w.heap.size, 2, none⟩ (.int .i64 0)).setCell ⟨w.heap.size, 3, none⟩ (.int .i64 0)).cell? ⟨w.heap.size, 0, none⟩ = some (.string ⟨#[]⟩) := by rw [Go.Joins.cell_of_block a3]; rfl
  have y1 : ((((w2.setCell ⟨w.heap.size, 0, none⟩ (.string ⟨#[]⟩)).setCell ⟨w.heap.size, 1, none⟩ (.int .i64 0)).setCell ⟨w.heap.size, 2, none⟩ (.int .i64 0)).setCell ⟨w.heap.size, 3, none⟩ (.int .i64 0)).cell? ⟨w.heap.size, 1, none⟩ = some (.int .i64 0) := by rw [Go.Joins.cell_of_block a3]; rfl
  have y2 : ((((w2.setCell ⟨w.heap.size, 0, none⟩ (.string ⟨#[]⟩)).setCell ⟨w.heap.size, 1, none⟩ (.int .i64 0)).setCell ⟨w.heap.size, 2, none⟩ (.int .i64 0)).setCell ⟨w.heap.size, 3, none⟩ (.int .i64 0)).cell? ⟨w.heap.size, 2, none⟩ = some (.int .i64 0) := by rw [Go.Joins.cell_of_block a3]; rfl
  have y3 : ((((w2.setCell ⟨w.heap.size, 0, none⟩ (.string ⟨#[]⟩)).setCell ⟨w.heap.size, 1, none⟩ (.int .i64 0)).setCell ⟨w.heap.size, 2, none⟩ (.int .i64 0)).setCell ⟨w.heap.size, 3, none⟩ (.int .i64 0)).cell? ⟨w.heap.size, 3, none⟩ = some (.int .i64 0) := by rw [Go.Joins.cell_of_block a3]; rfl
  have HB2 := hide2 hb2
  have hs2 := hb2.size
  clear HFD hb2 ZB a0 a1 a2 a3
  go_wp2
  refine bodyPost_ret (v := .tuple #[.agg #[.string ⟨#[]⟩, .int .i64 0, .int .i64 0, .int .i64 0], .int .i64 110]) (by simp [results, Tryd.results65, go_sem, y0, y1, y2, y3]) rfl ⟨rfl, ?_⟩
  have hB2 := HB2.out
  have hB := HBW.out
  have hall : Below w.heap.size w w2 := hB.trans ⟨hB2.os, hB2.tape, hB2.output, hB2.size, fun j hj => hB2.block j (by omega)⟩
  exact (((((Fr.below (F := fun _ => False) hall).setCell (p := ⟨w.heap.size, 0, none⟩) (.inr (Nat.le_refl _)) _).setCell (p := ⟨w.heap.size, 1, none⟩) (.inr (Nat.le_refl _)) _).setCell (p := ⟨w.heap.size, 2, none⟩) (.inr (Nat.le_refl _)) _).setCell (p := ⟨w.heap.size, 3, none⟩) (.inr (Nat.le_refl _)) _).to (fun _ _ e => e) (Nat.le_refl _)
set_option maxRecDepth 100000 in
set_option maxHeartbeats 4000000 in
theorem versionOf_nil (n : Int) :
    Calls Tryd.prog 65 #[.pointer none, .int .i64 n] w fun e w' => e = .returned (.tuple #[.agg #[.string ⟨#[]⟩, .int .i64 0, .int .i64 0, .int .i64 0], .int .i64 1]) ∧ Below w.heap.size w w' := by
  have HI := hide2 (fun u : World => isNone_nil (w := u))
  go_enter Tryd.func65, Tryd.ntmps65
  go_wp2_with fail
  refine (HI.out _).mono ?_
  rintro e w1 ⟨rfl, q1⟩
  subst q1
  clear HI
  go_wp2
  refine bodyPost_ret (v := .tuple #[.agg #[.string ⟨#[]⟩, .int .i64 0, .int .i64 0, .int .i64 0], .int .i64 1]) (by simp [results, Tryd.results65, go_sem]) rfl ⟨rfl, ?_⟩
  exact (Below.refl _ _).alloc (Nat.le_refl _) _
theorem mayEnd_any (n : Int) (w : World) (h0 : 0 ≤ n) : Calls Tryd.prog 66 #[.int .u64 n] w fun e w' => e = .returned (.bool (ptO n)) ∧ w' = w := by
  have HP := hide2 (parts_any n w h0)
  go_enter Tryd.func66, Tryd.ntmps66
  go_wp2_with fail
  refine HP.out.mono ?_
  rintro e w1 ⟨rfl, q1⟩
  subst q1
  clear HP
  go_wp2
  go_ret
  exact ⟨rfl, rfl⟩
def mbg (n : Int) : Bool := ptO n && decide (n ≠ 1099511627776)
theorem mayBegin_any (n : Int) (w : World) (h0 : 0 ≤ n) : Calls Tryd.prog 53 #[.int .u64 n] w fun e w' => e = .returned (.bool (mbg n)) ∧ w' = w := by
  have HP := hide2 (mayEnd_any n w h0)
  unfold mbg
  cases hp : ptO n with
  | false =>
    rw [hp] at HP
    go_enter Tryd.func53, Tryd.ntmps53
    go_wp2_with fail
    refine HP.out.mono ?_
    rintro e w1 ⟨rfl, q1⟩
    subst q1
    clear HP hp
    go_wp2
    go_ret
    exact ⟨rfl, rfl⟩
  | true =>
    rw [hp] at HP
    go_enter Tryd.func53, Tryd.ntmps53
    go_wp2_with fail
    refine HP.out.mono ?_
    rintro e w1 ⟨rfl, q1⟩
    subst q1
    clear HP hp
    go_wp2
    go_ret
    refine ⟨wret_bool ?_, rfl⟩
    simp [bne]
    rfl
end
end Go.Proofs.YtfhcphgjaobnoaaDoor
