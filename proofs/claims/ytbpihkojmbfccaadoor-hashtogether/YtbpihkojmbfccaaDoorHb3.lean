/-
  A step, whatever the operation is at.
-/
import Derived.Test.YtbpihkojmbfccaaDoorHb2
set_option linter.unusedVariables false
set_option linter.unusedSimpArgs false
namespace Go.Proofs.YtbpihkojmbfccaaDoor
open Go.RowKit Go.Maps

/-- An operation's bucket. -/
def bo (s : Tb) (o : Opm) : Nat := bkt s.hd.length o.k

/-- Where an operation is: behind so many keys of its chain, none of which is its own. -/
structure OI (s : Tb) (o : Opm) : Prop where
  k : good o.k = true
  le : o.pos ≤ (s.at (bo s o)).length
  pl : o.pl = plc (s.head (bo s o)) (s.at (bo s o)) o.pos
  no : ∀ e ∈ (s.at (bo s o)).take o.pos, e.k ≠ o.k

/-- A step. -/
inductive Stp (z : Nat) (s : Tb) (o : Opm) : Tb → Opm → Prop
  | pass (e : En) (h0 : o.st = 0) (hi : (s.at (bo s o))[o.pos]? = some e) (hk : e.k ≠ o.k) : Stp z s o s { o with pl := e.c, pos := o.pos + 1 }
  | found (e : En) (h0 : o.st = 0) (hi : (s.at (bo s o))[o.pos]? = some e) (hk : e.k = o.k) : Stp z s o s { o.ans e.r true 0 with st := if o.spare s = true then 2 else 3 }
  | miss (h0 : o.st = 0) (hi : o.pos = (s.at (bo s o)).length) : Stp z s o s o.missed
  | take (c : Nat) (h0 : o.st = 1) (hs : o.spare s = false) (hz : s.cells.length < z) (hc : c ∉ s.cells) : Stp z s o { s with sp := s.sp ++ [c] } { o with cell := some c }
  | full (h0 : o.st = 1) (hs : o.spare s = false) (hz : s.cells.length = z) : Stp z s o s { o with cell := none, full := true, st := 0 }
  | link (c : Nat) (h0 : o.st = 1) (hc : o.cell = some c) (hcs : c ∈ s.sp) (hi : o.pos = (s.at (bo s o)).length) : Stp z s o (s.linked (bo s o) ⟨c, o.k, o.r⟩) (o.ans o.r false 0)
  | late (c : Nat) (h0 : o.st = 1) (hc : o.cell = some c) (hcs : c ∈ s.sp) (hi : o.pos < (s.at (bo s o)).length) : Stp z s o s { o with st := 0 }
  | give (c : Nat) (h0 : o.st = 2) (hc : o.cell = some c) (hcs : c ∈ s.sp) : Stp z s o (s.given c) { o with st := 3 }

theorem least_of (p : Nat → Bool) : ∀ (c : Nat), p c = true → ∃ m, p m = true ∧ ∀ j, j < m → p j = false := by
  intro c
  induction c using Nat.strongRecOn with
  | _ c ih =>
    intro h
    by_cases hx : ∃ j, j < c ∧ p j = true
    · obtain ⟨j, hj, hp⟩ := hx
      exact ih j hj hp
    · refine ⟨c, h, fun j hj => ?_⟩
      cases hp : p j with
      | false => rfl
      | true => exact absurd ⟨j, hj, hp⟩ hx
theorem free_cell {T : List Bool} (h : T.count true < T.length) : ∃ c, T.getD c true = false ∧ ∀ j, j < c → T.getD j true = true := by
  have h1 : ∃ c, T.getD c true = false := by
    by_cases hx : ∃ c, T.getD c true = false
    · exact hx
    · have : T.count true = T.length := count_all.2 (fun c => by
        cases hp : T.getD c true with
        | true => rfl
        | false => exact absurd ⟨c, hp⟩ hx)
      omega
  obtain ⟨c, hc⟩ := h1
  obtain ⟨m, hm, hl⟩ := least_of (fun c => !T.getD c true) c (by rw [hc]; rfl)
  exact ⟨m, by simpa using hm, fun j hj => by simpa using hl j hj⟩

section
variable {w : World} {K : Nat → Prop} {tb d z M : Nat} {s : Tb} {ob : Nat} {o : Opm}

theorem good_size {k : ByteArray} (h : good k = true) : 1 ≤ k.size ∧ k.size ≤ 16 := by simpa [good] using h
theorem bkt_lt {n : Nat} (k : ByteArray) (h : 1 ≤ n) : bkt n k < n := Nat.mod_lt _ (by omega)
theorem Tb.inv.all_le {bk : ByteArray → Nat} {T : List Bool} {N : List Int} {u : Nat} (h : s.inv bk T N u) : s.all.length ≤ T.length ∧ s.sp.length ≤ T.length ∧ s.cells.length ≤ T.length := by
  have h1 := h.cnt
  have h2 : T.count true ≤ T.length := List.count_le_length
  have h3 : s.cells.length = s.hd.length + (s.all.length + s.sp.length) := by simp [Tb.cells]
  omega
theorem Tb.inv.free {bk : ByteArray → Nat} {T : List Bool} {N : List Int} {u : Nat} (h : s.inv bk T N u) {c : Nat} (hc : T.getD c true = false) : c < T.length := by
  rcases Nat.lt_or_ge c T.length with h1 | h1
  · exact h1
  · simp [List.getD, List.getElem?_eq_none h1] at hc

theorem HT.step (h : HT w K tb d z M s) (ho : Om w ob (tp tb) o) (hob : ¬ K ob) (hI : OI s o) (hst : o.st < 3) (h2 : o.st = 2 → o.spare s = true) (hsp : o.spare s = false → s.cells.length = z → s.sp = []) (hM : M < 2305843009213693952) :
    Calls Tryd.prog 25 #[.pointer (some ⟨ob, 0, none⟩)] w fun e w' => ∃ s' o' K', e = .returned (.bool (decide (o'.st = 3))) ∧ Stp z s o s' o' ∧ HT w' K' tb d z (M + 1) s' ∧ Om w' ob (tp tb) o' ∧ (∀ j, j < w.heap.size → (K' j ↔ K j)) ∧ Fr (fun j => K j ∨ j = ob) w w' := by
  obtain ⟨g, hb, hc, mb, sv, D, T, N, m, F, hH, hV, hz, hm0, hmM⟩ := h
  have hm : 0 ≤ m ∧ m < 4611686018427387904 := by omega
  have hn := hV.n1.1
  have hk := good_size hI.k
  have hbo : bo s o < s.hd.length := bkt_lt _ hn
  have hbc : bo s o < s.ch.length := by rw [hV.len]; exact hbo
  have hplc : o.pl ∈ s.cells := by rw [hI.pl]; exact hV.plc_cells hbo _
  have hplt := hV.tk _ hplc
  have hNl : N.length ≤ 65536 := hH.aw.one.2
  have hTl : T.length = N.length := hH.aw.len
  obtain ⟨a1, a2, a3⟩ := hV.all_le
  have hlt : ∀ c ∈ s.cells, c ≤ 65535 := fun c hc => by have := hV.lt hc; omega
  have hcases : o.st = 0 ∨ o.st = 1 ∨ o.st = 2 := by omega
  rcases hcases with h0 | h0 | h0
  · -- it looks
    rcases Nat.lt_or_ge o.pos (s.at (bo s o)).length with hp | hp
    · obtain ⟨e, he⟩ : ∃ e, (s.at (bo s o))[o.pos]? = some e := ⟨_, List.getElem?_eq_getElem hp⟩
      have hea : e ∈ s.at (bo s o) := List.mem_of_getElem? he
      have hv : N.getD o.pl 0 = (e.c : Int) + 1 := by rw [hI.pl]; exact (hV.ln _ hbo).at he
      have hec : e.c ≤ 65535 := hlt _ (all_cells (List.mem_map.2 ⟨e, at_all hea, rfl⟩))
      by_cases hkk : e.k = o.k
      · refine (step_look (R := fun w' o' => o' = { o.ans e.r true 0 with st := if o.spare s = true then 2 else 3 } ∧ Hm w' K tb d g hb hc mb sv D T N (m + 1) F s ∧ Fr (fun j => K j ∨ j = ob) w w') hH hn ho h0 hk.1 ((look_found hH ho hob hplt (at_all hea) hec hv hkk hm).mono ?_)).mono ?_
        · rintro e' w' ⟨rfl, h1, h2, h3⟩
          exact ⟨rfl, _, h2, rfl, h1, h3⟩
        · rintro e' w' ⟨o', rfl, h1, rfl, h2, h3⟩
          exact ⟨s, _, K, rfl, .found e h0 he hkk, ⟨g, hb, hc, mb, sv, D, T, N, m + 1, F, h2, hV, hz, by omega, by omega⟩, h1, fun _ _ => Iff.rfl, h3⟩
      · refine (step_look (R := fun w' o' => o' = { o with pl := e.c, pos := o.pos + 1 } ∧ Hm w' K tb d g hb hc mb sv D T N (m + 1) F s ∧ Fr (fun j => K j ∨ j = ob) w w') hH hn ho h0 hk.1 ((look_pass hH ho hob hplt (at_all hea) hec hv hkk hm).mono ?_)).mono ?_
        · rintro e' w' ⟨rfl, h1, h2, h3⟩
          exact ⟨rfl, { o with pl := e.c, pos := o.pos + 1 }, h2, rfl, h1, h3⟩
        · rintro e' w' ⟨o', rfl, h1, rfl, h2, h3⟩
          exact ⟨s, _, K, rfl, .pass e h0 he hkk, ⟨g, hb, hc, mb, sv, D, T, N, m + 1, F, h2, hV, hz, by omega, by omega⟩, h1, fun _ _ => Iff.rfl, h3⟩
    · have hpe : o.pos = (s.at (bo s o)).length := by have := hI.le; omega
      have hv : N.getD o.pl 0 = 0 := by rw [hI.pl, hpe]; exact (hV.ln _ hbo).fin
      refine (step_look (R := fun w' o' => o' = o.missed ∧ Hm w' K tb d g hb hc mb sv D T N (m + 1) F s ∧ Fr (fun j => K j ∨ j = ob) w w') hH hn ho h0 hk.1 ((look_end hH ho hob hplt hv hm).mono ?_)).mono ?_
      · rintro e' w' ⟨rfl, h1, h2, h3⟩
        exact ⟨rfl, _, h2, rfl, h1, h3⟩
      · rintro e' w' ⟨o', rfl, h1, rfl, h2, h3⟩
        exact ⟨s, _, K, rfl, .miss h0 hpe, ⟨g, hb, hc, mb, sv, D, T, N, m + 1, F, h2, hV, hz, by omega, by omega⟩, h1, fun _ _ => Iff.rfl, h3⟩
  · -- it puts
    cases hos : o.spare s with
    | true =>
      obtain ⟨c, hcc, hcs⟩ : ∃ c, o.cell = some c ∧ c ∈ s.sp := by
        unfold Opm.spare at hos
        cases hx : o.cell with
        | none => rw [hx] at hos; cases hos
        | some c => rw [hx] at hos; exact ⟨c, rfl, by simpa using hos⟩
      have hcl := hlt c (sp_cells hcs)
      rcases Nat.lt_or_ge o.pos (s.at (bo s o)).length with hp | hp
      · obtain ⟨e, he⟩ : ∃ e, (s.at (bo s o))[o.pos]? = some e := ⟨_, List.getElem?_eq_getElem hp⟩
        have hv : N.getD o.pl 0 ≠ 0 := by rw [hI.pl, (hV.ln _ hbo).at he]; omega
        refine (step_put (R := fun w' o' => o' = { o with st := 0 } ∧ Hm w' K tb d g hb hc mb sv D T N (m + 1) F s ∧ Fr (fun j => K j ∨ j = ob) w w') hH hn ho h0 hk.1 ((put_late hH ho hob hcc hcs hcl hplt hv hm).mono ?_)).mono ?_
        · rintro e' w' ⟨rfl, h1, h2, h3⟩
          exact ⟨rfl, _, h2, rfl, h1, h3⟩
        · rintro e' w' ⟨o', rfl, h1, rfl, h2, h3⟩
          exact ⟨s, _, K, rfl, .late c h0 hcc hcs hp, ⟨g, hb, hc, mb, sv, D, T, N, m + 1, F, h2, hV, hz, by omega, by omega⟩, h1, fun _ _ => Iff.rfl, h3⟩
      · have hpe : o.pos = (s.at (bo s o)).length := by have := hI.le; omega
        have hv : N.getD o.pl 0 = 0 := by rw [hI.pl, hpe]; exact (hV.ln _ hbo).fin
        have hne : ∀ x ∈ s.all, x.c ≠ c := fun x hx e => by
          have hnd := hV.nd
          unfold Tb.cells at hnd
          exact (List.nodup_append.1 (List.nodup_append.1 hnd).2.1).2.2 x.c (List.mem_map.2 ⟨x, hx, rfl⟩) c hcs e
        have hno : ∀ x ∈ s.at (bo s o), x.k ≠ o.k := fun x hx => hI.no x (by rw [hpe, List.take_length]; exact hx)
        have hV' := hV.linked hbo (e := ⟨c, o.k, o.r⟩) hcs ⟨rfl, hk⟩ hno
        rw [← hpe, ← hI.pl] at hV'
        refine (step_put (R := fun w' o' => o' = o.ans o.r false 0 ∧ (∃ sv' D', Hm w' K tb d g hb hc mb sv' D' T (N.set o.pl ((c : Int) + 1)) (m + 1) F (s.linked (bo s o) ⟨c, o.k, o.r⟩)) ∧ Fr (fun j => K j ∨ j = ob) w w') hH hn ho h0 hk.1 ((put_link hH ho hob hcc hcs hcl hplt hv hbc hne (by omega) (by omega) hm).mono ?_)).mono ?_
        · rintro e' w' ⟨rfl, h1, h2, h3⟩
          exact ⟨rfl, _, h2, rfl, h1, h3⟩
        · rintro e' w' ⟨o', rfl, h1, rfl, ⟨sv', D', h2⟩, h3⟩
          exact ⟨_, _, K, rfl, .link c h0 hcc hcs hpe, ⟨g, hb, hc, mb, sv', D', T, _, m + 1, F, h2, hV', by simpa using hz, by omega, by omega⟩, h1, fun _ _ => Iff.rfl, h3⟩
    | false =>
      rcases Nat.lt_or_ge s.cells.length z with hzz | hzz
      · obtain ⟨c, hc1, hcm⟩ := free_cell (T := T) (by have := hV.cnt; omega)
        have hcT := hV.free hc1
        have hnc : c ∉ s.cells := fun hm' => by
          have := hV.tk c hm'
          rw [← getD_tf hcT, hc1] at this
          cases this
        have hV' := hV.taken hc1 hcT
        refine (step_put (R := fun w' o' => o' = { o with cell := some c } ∧ (∃ K' sv', Hm w' K' tb d g hb hc mb sv' D (T.set c true) (N.set c 0) m (flip F c) { s with sp := s.sp ++ [c] } ∧ ∀ j, j < w.heap.size → (K' j ↔ K j)) ∧ Fr (fun j => K j ∨ j = ob) w w') hH hn ho h0 hk.1 ((put_take hH ho hob hos hc1 hcm (by omega)).mono ?_)).mono ?_
        · rintro e' w' ⟨rfl, K', sv', h1, h2, h3, h4⟩
          exact ⟨rfl, _, h2, rfl, ⟨K', sv', h1, h3⟩, h4⟩
        · rintro e' w' ⟨o', rfl, h1, rfl, ⟨K', sv', h2, h3⟩, h4⟩
          exact ⟨_, _, K', rfl, .take c h0 hos hzz hnc, ⟨g, hb, hc, mb, sv', D, _, _, m, _, h2, hV', by simpa using hz, by omega, by omega⟩, h1, h3, h4⟩
      · have hze : s.cells.length = z := by omega
        refine (step_put (R := fun w' o' => o' = { o with cell := none, full := true, st := 0 } ∧ Hm w' K tb d g hb hc mb sv D T N m F s ∧ Fr (fun j => K j ∨ j = ob) w w') hH hn ho h0 hk.1 ((put_full hH ho hob hos (by have := hV.cnt; omega) (hsp hos hze)).mono ?_)).mono ?_
        · rintro e' w' ⟨rfl, h1, h2, h3⟩
          exact ⟨rfl, _, h2, rfl, h1, h3.mono (fun j _ e => .inr e)⟩
        · rintro e' w' ⟨o', rfl, h1, rfl, h2, h3⟩
          exact ⟨s, _, K, rfl, .full h0 hos hze, ⟨g, hb, hc, mb, sv, D, T, N, m, F, h2, hV, hz, by omega, by omega⟩, h1, fun _ _ => Iff.rfl, h3⟩
  · -- it gives its cell back
    have hos := h2 h0
    obtain ⟨c, hcc, hcs⟩ : ∃ c, o.cell = some c ∧ c ∈ s.sp := by
      unfold Opm.spare at hos
      cases hx : o.cell with
      | none => rw [hx] at hos; cases hos
      | some c => rw [hx] at hos; exact ⟨c, rfl, by simpa using hos⟩
    have hV' := hV.given hcs
    refine (step_give hH hn ho hob h0 hk.1 hcc hcs (hV.tk c (sp_cells hcs)) (by omega)).mono ?_
    rintro e' w' ⟨rfl, h1, ⟨sv', h2⟩, h3⟩
    exact ⟨_, _, K, rfl, .give c h0 hcc hcs, ⟨g, hb, hc, mb, sv', D, _, N, m, _, h2, hV', hz, by omega, by omega⟩, h1, fun _ _ => Iff.rfl, h3⟩

/-- What is done elsewhere. -/
theorem HT.keep {G : Nat → Prop} {w' : World} (h : HT w K tb d z M s) (k : Fr G w w') (hG : ∀ j, K j → ¬ G j) (h0 : ¬ G 0) : HT w' K tb d z M s := by
  obtain ⟨g, hb, hc, mb, sv, D, T, N, m, F, hH, r⟩ := h
  exact ⟨g, hb, hc, mb, sv, D, T, N, m, F, hH.keep k hG h0, r⟩
theorem HT.used (h : HT w K tb d z M s) : Calls Tryd.prog 10 #[.pointer (some ⟨d, 0, none⟩)] w fun e w' => e = .returned (.int .i64 (s.cells.length : Nat)) ∧ w' = w := by
  obtain ⟨g, hb, hc, mb, sv, D, T, N, m, F, hH, hV, r⟩ := h
  have := Used_any hH.aw
  rw [hV.cnt, Nat.zero_add] at this
  exact this

/-! ### What a step leaves -/
theorem Stp.hd {s' : Tb} {o' : Opm} (h : Stp z s o s' o') : s'.hd = s.hd := by cases h <;> rfl
theorem Stp.grow {s' : Tb} {o' : Opm} (h : Stp z s o s' o') (hl : bo s o < s.ch.length) (b : Nat) : ∃ t, s'.at b = s.at b ++ t := by
  cases h with
  | link c h0 hc hcs hi =>
    rw [linked_at hl]
    by_cases e : b = bo s o
    · exact ⟨[⟨c, o.k, o.r⟩], by rw [if_pos e, e]⟩
    · exact ⟨[], by rw [if_neg e, List.append_nil]⟩
  | pass => exact ⟨[], by rw [List.append_nil]⟩
  | found => exact ⟨[], by rw [List.append_nil]⟩
  | miss => exact ⟨[], by rw [List.append_nil]⟩
  | take => exact ⟨[], by rw [List.append_nil]; rfl⟩
  | full => exact ⟨[], by rw [List.append_nil]⟩
  | late => exact ⟨[], by rw [List.append_nil]⟩
  | give => exact ⟨[], by rw [List.append_nil]; rfl⟩
theorem OI.grown {s' : Tb} (h : OI s o) (e1 : s'.hd = s.hd) (e2 : ∃ t, s'.at (bo s o) = s.at (bo s o) ++ t) : OI s' o := by
  obtain ⟨t, e2⟩ := e2
  have eb : bo s' o = bo s o := by unfold bo; rw [e1]
  have eh : s'.head (bo s o) = s.head (bo s o) := by unfold Tb.head; rw [e1]
  refine ⟨h.k, ?_, ?_, ?_⟩
  · rw [eb, e2, List.length_append]; have := h.le; omega
  · rw [eb, e2, eh, plc_append _ _ _ _ h.le]; exact h.pl
  · rw [eb, e2, List.take_append_of_le_length h.le]; exact h.no
/-- An operation's own step leaves it where it may be. -/
theorem OI.step {s' : Tb} {o' : Opm} (h : OI s o) (hs : Stp z s o s' o') (hl : bo s o < s.ch.length) : OI s' o' := by
  have hk : o'.k = o.k := by
    cases hs <;> try rfl
    unfold Opm.missed
    split
    · rfl
    · split <;> rfl
  have hg := h.grown hs.hd (hs.grow hl (bo s o))
  cases hs with
  | pass e h0 hi hkk =>
    have hlt : o.pos < (s.at (bo s o)).length := (List.getElem?_eq_some_iff.1 hi).1
    refine ⟨h.k, ?_, ?_, ?_⟩
    · show o.pos + 1 ≤ _; exact hlt
    · show e.c = plc _ _ (o.pos + 1)
      exact (plc_succ _ _ _ _ hi).symm
    · intro x hx
      have hx2 : x ∈ (s.at (bo s o)).take (o.pos + 1) := hx
      rw [← List.take_append_getElem hlt, List.mem_append] at hx2
      rcases hx2 with h1 | h1
      · exact h.no x h1
      · rw [List.getElem?_eq_getElem hlt, Option.some.injEq] at hi
        simp at h1
        rw [h1, hi]; exact hkk
  | found e h0 hi hkk => exact ⟨hg.k, hg.le, hg.pl, hg.no⟩
  | miss h0 hi =>
    unfold Opm.missed
    split
    · exact ⟨hg.k, hg.le, hg.pl, hg.no⟩
    · split
      · exact ⟨hg.k, hg.le, hg.pl, hg.no⟩
      · exact ⟨hg.k, hg.le, hg.pl, hg.no⟩
  | take c h0 h1 h2 h3 => exact ⟨hg.k, hg.le, hg.pl, hg.no⟩
  | full h0 h1 h2 => exact ⟨hg.k, hg.le, hg.pl, hg.no⟩
  | link c h0 h1 h2 h3 => exact ⟨hg.k, hg.le, hg.pl, hg.no⟩
  | late c h0 h1 h2 h3 => exact ⟨hg.k, hg.le, hg.pl, hg.no⟩
  | give c h0 h1 h2 => exact ⟨hg.k, hg.le, hg.pl, hg.no⟩
end
end Go.Proofs.YtbpihkojmbfccaaDoor
