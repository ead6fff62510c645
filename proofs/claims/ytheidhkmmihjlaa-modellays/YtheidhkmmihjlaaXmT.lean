/-
  XmT: Writes in memory: slices that are read, rows that a call has made, append; the program's Apply of a right commit.
-/
import Derived.Test.YtheidhkmmihjlaaXmR
set_option linter.unusedVariables false
set_option linter.unusedSimpArgs false
namespace Go.Proofs.Ytheidhkmmihjlaa
open Go.RowKit
open ML (Ro RS Srt nless nl_irr nl_tr nl_tot od)
attribute [local go_sem] Oper.semAt_some
abbrev Wr.cl (x : Wr) : List Value := [.string x.key, .string x.val, .bool x.gone]
abbrev WS (w : World) (ao : Option Addr) (len cap : Nat) (l : List Wr) : Prop := Seq 3 Wr.cl w ao len cap l
def wrc (l : List Wr) : List Value := l.flatMap Wr.cl
theorem wrc_len (l : List Wr) : (wrc l).length = l.length * 3 := by
  induction l with
  | nil => rfl
  | cons p l ih => simp only [wrc, List.flatMap_cons, List.length_append, List.length_cons, List.length_nil] at *; omega
theorem wrc_append (l m : List Wr) : wrc (l ++ m) = wrc l ++ wrc m := by simp [wrc]
theorem wrc_at : ∀ (l : List Wr) (i : Nat) (r : Wr), l[i]? = some r → ∀ j u, r.cl[j]? = some u → (wrc l)[i * 3 + j]? = some u := by
  intro l
  induction l with
  | nil => intro i r h; cases h
  | cons q l ih =>
    intro i r h j u hu
    have hj : j < 3 := (List.getElem?_eq_some_iff.1 hu).1
    have e : wrc (q :: l) = q.cl ++ wrc l := rfl
    cases i with
    | zero =>
      cases h
      rw [e, List.getElem?_append_left (by simp; omega)]
      simpa using hu
    | succ i =>
      rw [e, List.getElem?_append_right (by simp; omega)]
      have := ih i r (by simpa using h) j u hu
      have e2 : (i + 1) * 3 + j - q.cl.length = i * 3 + j := by simp; omega
      rw [e2]
      exact this
theorem wrc_one (l : List Wr) : ∀ u ∈ wrc l, u.oneCell' = true := by
  intro u hu
  obtain ⟨p, _, hp⟩ := List.mem_flatMap.1 hu
  simp at hp
  rcases hp with rfl | rfl | rfl <;> rfl
/-- Rows that a call has made, from block B on. -/
abbrev Wo (w : World) (B : Nat) (v : Value) (l : List Wr) : Prop := w.ownsRow B 61 3 v l.length (wrc l)
theorem Wo.seq {w : World} {B : Nat} {v : Value} {l : List Wr} (h : Wo w B v l) : ∃ ao cap, v = .slice ao l.length cap ∧ WS w ao l.length cap l := by
  rcases h.2 with ⟨rfl, h0⟩ | ⟨g, cap, cur, rfl, hB, hh, hle, hm, hsz, htk⟩
  · exact ⟨none, 0, by rw [h0], rfl, by omega, Nat.zero_le _, fun q => by omega⟩
  · refine ⟨_, cap, rfl, rfl, hle, hm, fun q => ⟨g, 0, rfl, (Array.getElem?_eq_some_iff.1 hh).1, fun i r hi j u hu => ?_⟩⟩
    have hil := (List.getElem?_eq_some_iff.1 hi).1
    have hj : j < 3 := (List.getElem?_eq_some_iff.1 hu).1
    have h1 := World.ownsRow.cellAt h (i * 3 + j) (by omega)
    have e : (0 + i * 3 + j) = i * 3 + j := by omega
    rw [e, h1]
    exact wrc_at l i r hi j u hu
theorem Wo.keep {w w' : World} {B : Nat} {v : Value} {l : List Wr} (h : Wo w B v l) (hb : Below w.heap.size w w') : Wo w' B v l := by
  refine ⟨h.1, ?_⟩
  rcases h.2 with q | ⟨g, cap, cur, e, hB, hh, r⟩
  · exact .inl q
  · exact .inr ⟨g, cap, cur, e, hB, (hb.block g (Array.getElem?_eq_some_iff.1 hh).1).trans hh, r⟩
theorem infoWr : (Try.prog.info? 61).map (fun i => (i.zero, i.size, i.bytes)) = some (some (.agg #[.string .empty, .string .empty, .bool false]), 3, 40) := by kernel_rfl
/-- A slice of rows that may be appended. -/
def Svw (w : World) (x : Value) (m : List Wr) : Prop :=
  (x = .slice none 0 0 ∧ m = []) ∨ ∃ ad c, x = .slice (some ad) m.length c ∧ ∀ j u, (wrc m)[j]? = some u → w.cell? (ad.add j) = some u
/-- All its cells lie below. -/
theorem Svw.keep {w w' : World} {x : Value} {m : List Wr} (h : Svw w x m) (hb : Below w.heap.size w w') : Svw w' x m := by
  rcases h with q | ⟨ad, c, e, hc⟩
  · exact .inl q
  · refine .inr ⟨ad, c, e, fun j u hu => ?_⟩
    have h1 := hc j u hu
    exact (hb.cell (p := ad.add j) (World.block_lt_of_cell? w _ h1)).trans h1
section
variable {w : World} {B : Nat} {v : Value} {l m : List Wr} {x : Value}
theorem wapp (h : Wo w B v l) (hB : B ≤ w.heap.size) (hs : Svw w x m) (hl : l.length + m.length ≤ 1000000000) :
    ∃ v' w', (Builtin.append_ #[34, 34] 34 #[v, x]).run Try.prog w = .ok v' w' ∧ Wo w' B v' (l ++ m) ∧ (∀ a n, n ≤ B → Below n a w → Below n a w') ∧ w.heap.size ≤ w'.heap.size ∧ (∀ k, k < w.heap.size → v.ownBlock ≠ some k → w'.heap[k]? = w.heap[k]?) := by
  obtain ⟨i0, hi0, z0, z1, z2⟩ := info_parts infoWr
  rcases hs with ⟨rfl, rfl⟩ | ⟨ad, c, rfl, hc⟩
  · refine ⟨v, w, run_append_owned_none (P := Try.prog) (w := w) B 34 34 61 i0 3 Try.underlying34 hi0 v _ _ h, by rw [List.append_nil]; exact h, fun _ _ _ hb => hb, Nat.le_refl _, fun _ _ _ => rfl⟩
  · obtain ⟨v', w', hr, ho, hg, _, _⟩ := run_append_own_at (P := Try.prog) w B 34 34 61 i0 _ 3 40 Try.underlying34 hi0 z0 z1 z2 rfl (by decide) v _ _ h ad m.length c (wrc m) (wrc_len m) hc (wrc_one m) (by unfold maxLen; omega) (by omega) hB
    refine ⟨v', w', hr, ?_, fun a n hn hb => hb.grown hg (by omega) (fun k e => Nat.le_trans hn (World.ownsRow.lt h k e).1), hg.size, fun k hk hne => hg.block k hk (fun e => hne e.symm)⟩
    unfold Wo
    rw [List.length_append, wrc_append]
    exact ho
/-- The cells of a slice that is read. -/
theorem ws_cells {ao : Option Addr} {len cap : Nat} (h : WS w ao len cap l) (hl : 0 < len) : ∃ g off, ao = some ⟨g, off, none⟩ ∧ g < w.heap.size ∧ ∀ j u, (wrc l)[j]? = some u → w.cell? ⟨g, off + j, none⟩ = some u := by
  obtain ⟨g, off, e, hg, hc⟩ := h.2.2.2 hl
  refine ⟨g, off, e, hg, fun j u hu => ?_⟩
  have hj := (List.getElem?_eq_some_iff.1 hu).1
  rw [wrc_len] at hj
  obtain ⟨r, hr⟩ := some_at (l := l) (i := j / 3) (n := l.length) rfl (by omega)
  have hm : j % 3 < 3 := Nat.mod_lt _ (by decide)
  obtain ⟨y, hy⟩ : ∃ y, r.cl[j % 3]? = some y := ⟨r.cl[j % 3]'(by simp; omega), List.getElem?_eq_getElem (by simp; omega)⟩
  have e1 := wrc_at l (j / 3) r hr (j % 3) y hy
  have e2 : j / 3 * 3 + j % 3 = j := by omega
  rw [e2, hu] at e1
  have e3 := hc (j / 3) r hr (j % 3) y hy
  have e4 : off + j / 3 * 3 + j % 3 = off + j := by omega
  rw [e4] at e3
  rw [e3, Option.some.inj e1]
theorem WS.sv {ao : Option Addr} {len cap : Nat} (h : WS w ao len cap l) (hn : ao = none → cap = 0) : Svw w (.slice ao len cap) l := by
  have hl := h.1
  cases ao with
  | none =>
    have : len = 0 := by
      by_cases q : 0 < len
      · obtain ⟨g, off, e, _⟩ := h.2.2.2 q; cases e
      · omega
    exact .inl ⟨by rw [hn rfl, this], List.eq_nil_of_length_eq_zero (by omega)⟩
  | some ad =>
    refine .inr ⟨ad, cap, by rw [hl], fun j u hu => ?_⟩
    have hj := (List.getElem?_eq_some_iff.1 hu).1
    rw [wrc_len] at hj
    obtain ⟨g, off, e, hg, hc⟩ := ws_cells h (by omega)
    cases e
    rw [addr_plus]
    exact hc j u hu
end
/-! ### A right commit -/
def pkW (ps : List Wr) (k : Nat) : ByteArray := if k = 0 then ⟨#[]⟩ else (ps[k - 1]?.map Wr.key).getD ⟨#[]⟩
theorem pkW_less {ps : List Wr} (hs : SrtW ps) (hk : ∀ x ∈ ps, okW x = true) {k : Nat} {x : Wr} (h : ps[k]? = some x) : nless (pkW ps k) x.key = true := by
  unfold pkW
  by_cases e : k = 0
  · rw [if_pos e]
    have h1 : nless ⟨#[]⟩ x.key = decide (1 ≤ x.key.size) := slt_empty x.key
    rw [h1]
    exact decide_eq_true (okW_iff.1 (hk x (List.mem_of_getElem? h))).1.1
  · rw [if_neg e]
    obtain ⟨h1, e1⟩ := List.getElem?_eq_some_iff.1 h
    have h2 : k - 1 < ps.length := by omega
    rw [List.getElem?_eq_getElem h2]
    have := List.pairwise_iff_getElem.1 hs (k - 1) k h2 h1 (by omega)
    rw [e1] at this
    exact this
theorem ws_keep {w w' : World} {ao : Option Addr} {ln cp : Nat} {L : List Wr} (h : WS w ao ln cp L) (hk : ∀ j ∈ Kr ao, w'.heap[j]? = w.heap[j]?) (hs : w.heap.size ≤ w'.heap.size) : WS w' ao ln cp L := by
  refine ⟨h.1, h.2.1, h.2.2.1, fun hl => ?_⟩
  obtain ⟨g, off, rfl, hlt, hc⟩ := h.2.2.2 hl
  exact ⟨g, off, rfl, Nat.lt_of_lt_of_le hlt hs, fun i r hi u hu x => (World.cell?_of_block (hk g (by simp [Kr]))).trans (hc i r hi u hu x)⟩
theorem ws_below {w w' : World} {ao : Option Addr} {ln cp : Nat} {L : List Wr} (h : WS w ao ln cp L) (hb : Below w.heap.size w w') : WS w' ao ln cp L := by
  refine ⟨h.1, h.2.1, h.2.2.1, fun hl => ?_⟩
  obtain ⟨g, off, rfl, hlt, hc⟩ := h.2.2.2 hl
  exact ⟨g, off, rfl, Nat.lt_of_lt_of_le hlt hb.size, fun i r hi u hu x => (World.cell?_of_block (hb.block g hlt)).trans (hc i r hi u hu x)⟩
theorem ws_chg {w w' : World} {s : Nat → Prop} {ao : Option Addr} {ln cp : Nat} {L : List Wr} (h : WS w ao ln cp L) (hc : Chg s w w') (hd : ∀ j ∈ Kr ao, ¬ s j) : WS w' ao ln cp L := by
  refine ⟨h.1, h.2.1, h.2.2.1, fun hl => ?_⟩
  obtain ⟨g, off, rfl, hlt, hc2⟩ := h.2.2.2 hl
  exact ⟨g, off, rfl, Nat.lt_of_lt_of_le hlt hc.size, fun i r hi u hu x => (World.cell?_of_block (hc.2 g hlt (hd g (by simp [Kr])))).trans (hc2 i r hi u hu x)⟩
theorem cell_chg (w : World) (D i : Nat) (v : Value) : Chg (fun j => j = D) w (w.setCell ⟨D, i, none⟩ v) :=
  ⟨⟨rfl, rfl, rfl, by simp [World.setCell], fun k hk => absurd hk (Nat.not_lt_zero _)⟩, fun j hj n => set_else fun e => n e⟩
theorem empty_of {s : ByteArray} (h : s.size = 0) : s = ⟨#[]⟩ := by
  have : s.data.size = 0 := h
  exact ByteArray.ext (Array.eq_empty_of_size_eq_zero this)
section
set_option maxHeartbeats 1000000
set_option maxRecDepth 100000
variable {w : World} {ao : Option Addr} {len cap : Nat} {ps : List Wr} {X b : Nat}
theorem isRight_ok {t : Int} (ht : isT t = true) (h : WS w ao len cap ps) (hs : SrtW ps) (hk : ∀ x ∈ ps, okW x = true) (h64 : ps.length ≤ 64) :
    Calls Try.prog 30 #[.agg #[.int .i64 t, .slice ao len cap]] w fun e w' => e = .returned (.bool true) ∧ Below w.heap.size w w' := by
  obtain rfl := h.1
  have d64 : ¬ (64 : Int) < (ps.length : Int) := by omega
  have HT := xhide (fun w => mTime_any t w)
  have HK := xhide (fun s w => mKey_any s w)
  have HV := xhide (fun s w => mVal_any s w)
  have HA : Hid (∀ u, Below w.heap.size w u → WS u ao ps.length cap ps) := xhide (fun u hb => ws_below h hb)
  have HS := xhide hs
  have HKW := xhide hk
  clear h hs hk
  go_enter Try.func30, Try.ntmps30
  go_wp2_with fail
  refine (HT.out _).mono ?_
  rintro e w1 ⟨rfl, rfl⟩
  rw [ht]
  go_wp2_with fail
  go_loopw [19, 3] (fun i a wr => ∃ k : Nat, k ≤ ps.length ∧ i = .int .i64 (k : Nat) ∧ a = .string (pkW ps k) ∧ Hid (Below w.heap.size w wr)) (fun i _ _ => ps.length - (intOf i).toNat)
  case atStart => exact ⟨0, by omega, rfl, rfl, xhide (ML.below1 _ _)⟩
  case round =>
    obtain ⟨k, hkl, rfl, rfl, HB⟩ := hrel
    by_cases hlt : k < ps.length
    · obtain ⟨x, hx⟩ := some_at rfl hlt
      obtain ⟨g, off, rfl, hgl, hc⟩ := (HA.out _ HB.out).2.2.2 (by omega)
      have c0 := hc k x hx 0 _ rfl
      have c1 := hc k x hx 1 _ rfl
      have c2 := hc k x hx 2 _ rfl
      rw [Nat.add_zero] at c0
      have d1 : (k : Int) < (ps.length : Int) := by omega
      have hokx := HKW.out x (List.mem_of_getElem? hx)
      have e4 := pkW_less HS.out HKW.out hx
      have hfl := nl_flip x.key (pkW ps k)
      rw [e4] at hfl
      have e1 : isK x.key = true := isK_iff.2 (okW_iff.1 hokx).1
      have e2 : isV x.val = true := isV_iff.2 (okW_iff.1 hokx).2.1
      have hpk : pkW ps (k + 1) = x.key := by unfold pkW; simp [hx]
      have NB : Hid (Below w.heap.size w (wr.alloc (.cells #[.string x.key, .string x.val, .bool x.gone] 61))) := xhide (HB.out.trans ((ML.below1 wr _).mono HB.out.size))
      have hgone := (okW_iff.1 hokx).2.2
      clear hc hokx
      obtain ⟨xk, xv, xg⟩ := x
      simp only [] at c0 c1 c2 e1 e2 e4 hfl hpk hgone
      cases xg with
      | true =>
        obtain rfl := empty_of (hgone rfl)
        go_wp2_with (first
          | (go_at_call 25; refine (HK.out _ _).mono ?_; rintro e w' ⟨rfl, rfl⟩; rw [e1])
          | (go_at_call 26; refine (HV.out _ _).mono ?_; rintro e w' ⟨rfl, rfl⟩; rw [e2])
          | fail)
        go_roundw
        case rel => exact ⟨k + 1, by omega, by go_num, by rw [hpk], NB⟩
        case measure => simp [intOf]; omega
      | false =>
        go_wp2_with (first
          | (go_at_call 25; refine (HK.out _ _).mono ?_; rintro e w' ⟨rfl, rfl⟩; rw [e1])
          | (go_at_call 26; refine (HV.out _ _).mono ?_; rintro e w' ⟨rfl, rfl⟩; rw [e2])
          | fail)
        go_roundw
        case rel => exact ⟨k + 1, by omega, by go_num, by rw [hpk], NB⟩
        case measure => simp [intOf]; omega
    · obtain rfl : k = ps.length := by omega
      have d1 : ¬ (ps.length : Int) < (ps.length : Int) := by omega
      go_wp2
      go_ret
      exact ⟨rfl, HB.out⟩
/-- A commit's block. -/
theorem apply_right {L : List Ro} {t t' : Int} (h : Pm w X b none ⟨L, t, none⟩) (hL : L.length + 64 ≤ 1000000000000000) (ht : isT t' = true) (hlt : t < t') (hw : WS w ao len cap ps) (hd : ∀ j ∈ Kr ao, j ≠ X ∧ j ≠ b) (hs : SrtW ps) (hk : ∀ x ∈ ps, okW x = true) (h64 : ps.length ≤ 64) :
    Calls Try.prog 11 #[ptr X, .agg #[.int .i64 t', .slice ao len cap]] w fun e w' => e = .returned (.int .i64 0) ∧ Pm w' X b none ⟨doneW t' L ps, t', none⟩ ∧ Chg (fun j => j = X ∨ j = b) w w' := by
  obtain rfl := hw.1
  obtain ⟨W1, hW1⟩ : ∃ W1, W1 = w.alloc (.cells #[.int .i64 t', .slice ao ps.length cap] 36) := ⟨_, rfl⟩
  have hb1 : Below w.heap.size w W1 := by rw [hW1]; exact ML.below1 _ _
  have h1 := h.below hb1
  have hX0 := h.lt
  have hn1 : w.heap.size ≠ X := by omega
  have hn2 : X ≠ w.heap.size := by omega
  obtain ⟨c0, c1, c2⟩ := h1.cells
  have hc : W1.heap[w.heap.size]? = some (.cells #[.int .i64 t', .slice ao ps.length cap] 36 (0, 0)) := by rw [hW1]; exact ML.heap_alloc_at rfl _
  have z0 : W1.cell? ⟨w.heap.size, 0, none⟩ = some (.int .i64 t') := by rw [Go.Joins.cell_of_block hc]; rfl
  have z1 : W1.cell? ⟨w.heap.size, 1, none⟩ = some (.slice ao ps.length cap) := by rw [Go.Joins.cell_of_block hc]; rfl
  have hlw : w.heap.size < W1.heap.size := (Array.getElem?_eq_some_iff.1 hc).1
  have hlX := h1.lt
  have HN := xhide (none_any h1)
  have HR : Hid (∀ u, Below W1.heap.size W1 u → Calls Try.prog 30 #[.agg #[.int .i64 t', .slice ao ps.length cap]] u fun e w' => e = .returned (.bool true) ∧ Below u.heap.size u w') := xhide (fun u hu => isRight_ok ht (ws_below (ws_below hw hb1) hu) hs hk h64)
  have H1 := xhide h1
  have HB1 := xhide hb1
  have HBK := xhide hc
  have HWS : Hid (∀ u, Chg (fun j => j = X ∨ j = b) w u → WS u ao ps.length cap ps) := xhide (fun u hu => ws_chg hw hu (fun j hj q => by have := hd j hj; omega))
  have HOK := xhide hk
  have d0 : ¬ t' ≤ t := by omega
  have q1 := neWn
  have hX := xhide (show X < W1.heap.size from hlX)
  clear h h1 hb1 hc hw hd hk
  go_enter Try.func11, Try.ntmps11
  go_wp2_with fail
  rw [← hW1]
  clear hW1
  refine HN.out.mono ?_
  rintro e w1 ⟨rfl, rfl⟩
  go_wp2_with fail
  have HR2 : Hid (∀ u, Below w1.heap.size w1 u → Calls Try.prog 30 #[.agg #[.int .i64 t', .slice ao ps.length cap]] u fun e w' => e = .returned (.bool true) ∧ Below w1.heap.size w1 w') := xhide (fun u hu => (HR.out u hu).mono fun e w' hh => ⟨hh.1, hu.trans (hh.2.mono hu.size)⟩)
  clear HR
  go_region_with (go_at_call 30; refine (HR2.out _ (by exact ⟨rfl, rfl, rfl, Nat.le_refl _, fun _ _ => rfl⟩)).mono ?_; rintro e w3 ⟨rfl, hb4⟩; have hP3 := H1.out.below hb4; obtain ⟨k0, k1, k2⟩ := hP3.cells; have y1 := hP3.free 1; have hl3 := hP3.lt; have hbk3 := (hb4.block _ hlw).trans HBK.out; have m0 : w3.cell? ⟨w.heap.size, 0, none⟩ = some (.int .i64 t') := (by rw [Go.Joins.cell_of_block hbk3]; rfl); have m1 : w3.cell? ⟨w.heap.size, 1, none⟩ = some (.slice ao ps.length cap) := (by rw [Go.Joins.cell_of_block hbk3]; rfl); have hlw3 : w.heap.size < w3.heap.size := (Array.getElem?_eq_some_iff.1 hbk3).1)
  all_goals
    have hs5 : (w3.setCell ⟨X, 1, none⟩ (.int .i64 t')).heap.size = w3.heap.size := by simp [World.setCell]
    have hP5 : Pm (w3.setCell ⟨X, 1, none⟩ (.int .i64 t')) X b none ⟨L, t', none⟩ := by
      obtain ⟨f, hMr, hFr⟩ := hP3.rm
      exact ⟨(Go.Joins.block_setCell hP3.blk _).trans rfl, ⟨hP3.ok.srt, hP3.ok.rows, ht, fun ws q => by cases q⟩, ⟨f, hMr.same (set_else hP3.nb.symm), hFr⟩, rfl, hP3.nb, nofun, nofun⟩
    have hC5 : Chg (fun j => j = X ∨ j = b) w (w3.setCell ⟨X, 1, none⟩ (.int .i64 t')) := (Chg.below (HB1.out.trans (hb4.mono HB1.out.size))).trans (cell_chg w3 X 1 (.int .i64 t')) (fun j _ q => .inl q)
    have HP5 : Hid (∀ u, Below (w3.setCell ⟨X, 1, none⟩ (.int .i64 t')).heap.size (w3.setCell ⟨X, 1, none⟩ (.int .i64 t')) u → Pm u X b none ⟨doneW t' L (ps.take 0), t', none⟩ ∧ Chg (fun j => j = X ∨ j = b) w u) := xhide (fun u hu => ⟨hP5.below hu, hC5.trans (Chg.below (s := fun j => j = X ∨ j = b) hu) (fun j _ q => q)⟩)
    clear hP5 hC5 hP3 hb4 hbk3
    go_wp2_with fail
    go_loopw [36] (fun i wr => ∃ k : Nat, k ≤ ps.length ∧ i = .int .i64 (k : Nat) ∧ Hid (Pm wr X b none ⟨doneW t' L (ps.take k), t', none⟩ ∧ Chg (fun j => j = X ∨ j = b) w wr)) (fun i _ => ps.length - (intOf i).toNat)
    case atStart => exact ⟨0, by omega, rfl, xhide (HP5.out _ ⟨rfl, rfl, rfl, Nat.le_refl _, fun _ _ => rfl⟩)⟩
    case round =>
      obtain ⟨k, hkl, rfl, HS⟩ := hrel
      clear HP5
      by_cases hlt2 : k < ps.length
      · obtain ⟨x, hx⟩ := some_at rfl hlt2
        obtain ⟨hP, hC⟩ := HS.out
        obtain ⟨g, off, rfl, hgl, hc⟩ := (HWS.out _ hC).2.2.2 (by omega)
        have c0 := hc k x hx 0 _ rfl
        have c1 := hc k x hx 1 _ rfl
        have c2 := hc k x hx 2 _ rfl
        rw [Nat.add_zero] at c0
        have d1 : (k : Int) < (ps.length : Int) := by omega
        have hbx := ML.below1 wr (.cells #[.string x.key, .string x.val, .bool x.gone] 61)
        have hll : (doneW t' L (ps.take k)).length ≤ 1000000000000000 := by
          have h1 := doneW_len (t := t') (ps.take k) L
          have h2 : (ps.take k).length ≤ k := List.length_take_le _ _
          omega
        have HL := xhide (lay_any (hP.below hbx) hll x (HOK.out x (List.mem_of_getElem? hx)))
        have HTK := xhide (doneW_take (t := t') (L := L) hx)
        have HCB := xhide (hC.trans (Chg.below (s := fun j => j = X ∨ j = b) hbx) (fun j _ q => q))
        clear hc hP hC hbx HS
        go_wp2_with fail
        refine HL.out.mono ?_
        rintro e w6 ⟨rfl, hP6, hC6⟩
        have NX : Hid (Pm w6 X b none ⟨doneW t' L (ps.take (k + 1)), t', none⟩ ∧ Chg (fun j => j = X ∨ j = b) w w6) := xhide ⟨by rw [HTK.out]; exact hP6, HCB.out.trans hC6 (fun j _ q => .inr q)⟩
        clear hP6 hC6 HL HTK HCB
        go_wp2_with fail
        go_roundw
        case rel => exact ⟨k + 1, by omega, by go_num, NX⟩
        case measure => simp [intOf]; omega
      · obtain rfl : k = ps.length := by omega
        have d1 : ¬ (ps.length : Int) < (ps.length : Int) := by omega
        rw [List.take_length] at HS
        go_wp2
        go_ret
        exact ⟨rfl, HS.out.1, HS.out.2⟩
end
end Go.Proofs.Ytheidhkmmihjlaa
