/-
  take: so many cells are taken, and numbers laid into them. (Printed by gen_ta4.py.)
-/
import Derived.Test.YtfhcphgjaobnoaaDoorTa3
import Derived.Test.YtfhcphgjaobnoaaDoorC8
import Derived.Deep.RegionHeld3
import Derived.Deep.MidRow
set_option linter.unusedVariables false
set_option linter.unusedSimpArgs false
namespace Go.Proofs.YtfhcphgjaobnoaaDoor
open Go.RowKit Go.Maps

theorem least_free : ∀ (T : List Bool), T.count true < T.length → ∃ c, T.getD c true = false ∧ ∀ j, j < c → T.getD j true = true
  | [], h => by simp at h
  | false :: T, _ => ⟨0, rfl, fun j hj => by omega⟩
  | true :: T, h => by
    have h1 : T.count true < T.length := by simpa using h
    obtain ⟨c, hc, hm⟩ := least_free T h1
    refine ⟨c + 1, by simpa using hc, fun j hj => ?_⟩
    cases j with
    | zero => rfl
    | succ j => simpa using hm j (by omega)

/-- These cells are taken besides; they were free. -/
def tset (T : List Bool) (cs : List Nat) : List Bool := cs.foldl (fun t c => t.set c true) T
def Fresh (T : List Bool) (cs : List Nat) : Prop := cs.Nodup ∧ ∀ c ∈ cs, T.getD c true = false
theorem tset_nil (T : List Bool) : tset T [] = T := rfl
theorem tset_snoc (T : List Bool) (cs : List Nat) (c : Nat) : tset T (cs ++ [c]) = (tset T cs).set c true := by simp [tset]
theorem tset_cons (T : List Bool) (cs : List Nat) (c : Nat) : tset T (c :: cs) = tset (T.set c true) cs := rfl
theorem tset_len : ∀ (cs : List Nat) (T : List Bool), (tset T cs).length = T.length
  | [], T => rfl
  | c :: cs, T => by rw [tset_cons, tset_len cs]; simp
theorem tset_at : ∀ (cs : List Nat) (T : List Bool) (j : Nat) (b : Bool), (tset T cs).getD j b = if j ∈ cs ∧ j < T.length then true else T.getD j b
  | [], T, j, b => by simp [tset]
  | c :: cs, T, j, b => by
    rw [tset_cons, tset_at cs, getD_set, List.length_set]
    by_cases h1 : j = c
    · by_cases h2 : c < T.length
      · subst h1
        simp [h2]
      · subst h1
        simp [h2]
    · simp [h1]
theorem getD_free {T : List Bool} {c : Nat} (h : T.getD c true = false) : c < T.length := by
  rcases Nat.lt_or_ge c T.length with h1 | h1
  · exact h1
  · simp [List.getD, List.getElem?_eq_none h1] at h
theorem Fresh.snoc {T : List Bool} {cs : List Nat} {c : Nat} (h : Fresh T cs) (hc : (tset T cs).getD c true = false) : Fresh T (cs ++ [c]) := by
  rw [tset_at] at hc
  have h1 : ¬ (c ∈ cs ∧ c < T.length) := fun q => by rw [if_pos q] at hc; cases hc
  rw [if_neg h1] at hc
  have hn : c ∉ cs := fun q => h1 ⟨q, getD_free hc⟩
  refine ⟨List.nodup_append.2 ⟨h.1, by simp, fun a ha b hb => ?_⟩, fun x hx => ?_⟩
  · simp at hb
    subst hb
    exact fun e => hn (e ▸ ha)
  · rcases List.mem_append.1 hx with q | q
    · exact h.2 x q
    · simp at q; rw [q]; exact hc

/-- What take leaves. -/
def TakeR (w w' : World) (d g : Nat) (T : List Bool) (N : List Int) (m : Int) (n : Nat) (xs : List Int) (v : Value) : Prop :=
  ∃ (cs : List Nat) (N' : List Int) (m' : Int) (F' : List Nat), Hr w' w.heap.size v cs ∧ cs.length = n ∧ Fresh T cs ∧
      Aw w' d g (tset T cs) N' m' F' ∧ m ≤ m' ∧ m' ≤ m + n ∧ (∀ (i c : Nat) (x : Int), cs[i]? = some c → xs[i]? = some x → N'.getD c 0 = x) ∧ (∀ c, c ∉ cs → N'.getD c 0 = N.getD c 0) ∧ (tset T cs).count true = T.count true + n ∧ Fr (fun j => j = d ∨ j = g) w w'

section
variable {w : World} {sb d g sg : Nat} {T : List Bool} {N : List Int} {m : Int} {F : List Nat}
/-- Store of a taken cell, through the store. -/
theorem sStore_any (h : Aw w d g T N m F) (c : Nat) (hc : tk T c = true) (a : Int) (ha : 0 ≤ a ∧ a ≤ 18446744073709551615) (hm : 0 ≤ m ∧ m < 4611686018427387904) :
    Calls Tryd.prog 67 #[.pointer (some ⟨d, 0, none⟩), .int .i64 (c : Int), .int .u64 a] w fun e w' => e = .returned (.int .i64 0) ∧ Aw w' d g T (N.set c a) (m + 1) F ∧ Fr (fun j => j = d ∨ j = g) w w' := by
  refine (Store_any h (c : Int) a ha hm).mono ?_
  rintro e w' hh
  obtain ⟨x, y, rfl, hD⟩ := hh
  obtain ⟨_, e2, hA⟩ := hD.yes hc
  subst e2
  refine ⟨rfl, ?_, hD.fr⟩
  simpa [act] using hA
theorem sLoad_any (h : Aw w d g T N m F) (c : Nat) (hc : tk T c = true) (hm : 0 ≤ m ∧ m < 4611686018427387904) :
    Calls Tryd.prog 51 #[.pointer (some ⟨d, 0, none⟩), .int .i64 (c : Int)] w fun e w' => e = .returned (.tuple #[.int .u64 (N.getD c 0), .int .i64 0]) ∧ Aw w' d g T N (m + 1) F ∧ Fr (fun j => j = d ∨ j = g) w w' := by
  have hl : c < N.length := by have := (tk_lt hc).2; rw [← h.len]; simpa using this
  refine (Load_any h (c : Int) hm).mono ?_
  rintro e w' ⟨x, y, rfl, hD⟩
  obtain ⟨e1, e2, hA⟩ := hD.yes hc
  simp only [act, if_pos, Int.toNat_natCast] at e1 hA
  subst e1 e2
  rw [set_self N c hl] at hA
  exact ⟨rfl, hA, hD.fr⟩
theorem sCAS_any (h : Aw w d g T N m F) (c : Nat) (hc : tk T c = true) (a b : Int) (ha : 0 ≤ a ∧ a ≤ 18446744073709551615) (hb : 0 ≤ b ∧ b ≤ 18446744073709551615) (hm : 0 ≤ m ∧ m < 4611686018427387904) :
    Calls Tryd.prog 58 #[.pointer (some ⟨d, 0, none⟩), .int .i64 (c : Int), .int .u64 a, .int .u64 b] w fun e w' => e = .returned (.tuple #[.bool (decide (N.getD c 0 = a)), .int .i64 0]) ∧ Aw w' d g T (if N.getD c 0 = a then N.set c b else N) (m + 1) F ∧ Fr (fun j => j = d ∨ j = g) w w' := by
  have hl : c < N.length := by have := (tk_lt hc).2; rw [← h.len]; simpa using this
  refine (CAS_any h (c : Int) a b ha hb hm).mono ?_
  rintro e w' ⟨x, y, rfl, hD⟩
  obtain ⟨e1, e2, hA⟩ := hD.yes hc
  subst e2
  have ea : act 3 a b (N.getD c 0) = if N.getD c 0 = a then (1, b) else (0, N.getD c 0) := by
    unfold act
    rw [if_neg (by decide), if_neg (by decide), if_pos rfl]
  simp only [Int.toNat_natCast, ea] at e1 hA
  subst e1
  by_cases q : N.getD c 0 = a
  · rw [if_pos q] at hA ⊢
    rw [if_pos q]
    refine ⟨?_, hA, hD.fr⟩
    rw [decide_eq_true q]
    rfl
  · rw [if_neg q] at hA ⊢
    rw [if_neg q]
    rw [set_self N c hl] at hA
    refine ⟨?_, hA, hD.fr⟩
    rw [decide_eq_false q]
    rfl

set_option maxRecDepth 100000 in
set_option maxHeartbeats 4000000 in
theorem take_ok {n cap : Nat} {xs : List Int} (hc : w.cell? ⟨sb, 0, none⟩ = some (.pointer (some ⟨d, 0, none⟩))) (hl : sb < w.heap.size) (h : Aw w d g T N m F) (hT : Tab w) (hd0 : d ≠ 0) (hg0 : g ≠ 0) (hsd : sb ≠ d) (hsg : sb ≠ g)
    (hx : xs.length = n) (hn : n ≤ 1000) (hcap : n ≤ cap) (hcm : cap ≤ maxLen) (hgl : sg < w.heap.size) (hgd : sg ≠ d) (hgg : sg ≠ g) (hnum : ∀ (i : Nat) (x : Int), xs[i]? = some x → w.cell? ⟨sg, i, none⟩ = some (.int .u64 x)) (hbd : ∀ x ∈ xs, 0 ≤ x ∧ x ≤ 18446744073709551615)
    (hroom : T.count true + n ≤ T.length) (hm : 0 ≤ m ∧ m < 4000000000000000000) :
    Calls Tryd.prog 55 #[.pointer (some ⟨sb, 0, none⟩), .slice (some ⟨sg, 0, none⟩) n cap] w fun e w' => ∃ (v : Value), e = .returned (.tuple #[v, .int .i64 0]) ∧ TakeR w w' d g T N m n xs v := by
  obtain ⟨i0, hi0, z0, z1, z2⟩ := info_parts infoH
  have hdl := h.ab.lt
  have hgl2 := h.nb.lt
  have hlen := h.len
  unfold maxLen at hcm
  have HT := hide2 hT
  have H := hide2 h
  have HNUM := hide2 hnum
  have HBD := hide2 hbd
  have hzl : N.length ≤ 65536 := h.one.2
  clear h hT hnum hbd
  go_enter Tryd.func55, Tryd.ntmps55
  go_wp2
  go_loopw [6, 13] (fun v i wr => ∃ (cs : List Nat) (N' : List Int) (F' : List Nat), cs.length ≤ n ∧ i = .int .i64 (cs.length : Nat) ∧ Hid (Fresh T cs) ∧ Hid (Hr wr w.heap.size v cs) ∧ Hid (Aw wr d g (tset T cs) N' m F') ∧ Hid (∀ c ∈ cs, N'.getD c 0 = 0) ∧ Hid (∀ c, c ∉ cs → N'.getD c 0 = N.getD c 0) ∧ Hid ((tset T cs).count true = T.count true + cs.length) ∧ Hid (Fr (fun j => j = d ∨ j = g) w wr)) (fun _ i _ => n - (intOf i).toNat)
  case atStart =>
    exact ⟨[], N, F, Nat.zero_le _, rfl, hide2 ⟨List.nodup_nil, fun _ h => (nomatch h)⟩, hide2 ⟨rfl, .inl ⟨rfl, rfl⟩⟩, H, hide2 (fun _ h => (nomatch h)), hide2 (fun _ _ => rfl), hide2 rfl, hide2 (Fr.refl _ w)⟩
  case round =>
    obtain ⟨cs, N', F', hkn, rfl, HFS, HR, HA, HZ, HN, HC, HF⟩ := hrel
    have hsz := HF.out.size
    have hc1 : wr.cell? ⟨sb, 0, none⟩ = some (.pointer (some ⟨d, 0, none⟩)) := (HF.out.cell (p := ⟨sb, 0, none⟩) hl (by rintro (e | e); exact hsd e; exact hsg e)).trans hc
    by_cases hk : cs.length < n
    · have hki : (cs.length : Int) < (n : Int) := by omega
      have hki2 : decide ((cs.length : Int) < (n : Int)) = true := by simp; omega
      obtain ⟨c, hcf, hmin⟩ := least_free (tset T cs) (by rw [HC.out, tset_len]; omega)
      have hcl := getD_free hcf
      have ha := Alloc_one HA.out (HT.out.fr HF.out (by rintro (e | e); exact hd0 e.symm; exact hg0 e.symm)) c hcf hmin hd0 hg0
      rw [← tset_snoc] at ha
      have HAL := hide2 ha
      have hcnt := count_on hcl hcf
      rw [← tset_snoc, HC.out] at hcnt
      have HFS2 := hide2 (HFS.out.snoc hcf)
      have hl' : c < N'.length := by rw [← HA.out.len]; exact hcl
      have hcn : c ∉ cs := by
        intro q
        have := HFS2.out.1
        rw [List.nodup_append] at this
        exact this.2.2 c q c (by simp) rfl
      have HZ2 : Hid (∀ x ∈ cs ++ [c], (N'.set c 0).getD x 0 = 0) := hide2 (fun x hx => by
        rw [getD_set]
        by_cases e : x = c
        · rw [if_pos ⟨e, hl'⟩]
        · rw [if_neg (fun q => e q.1)]
          rcases List.mem_append.1 hx with q | q
          · exact HZ.out x q
          · simp at q; exact absurd q e)
      have HN2 : Hid (∀ x, x ∉ cs ++ [c] → (N'.set c 0).getD x 0 = N.getD x 0) := hide2 (fun x hx => by
        have h1 : x ∉ cs := fun q => hx (List.mem_append.2 (.inl q))
        have h2 : x ≠ c := fun q => hx (List.mem_append.2 (.inr (by simp [q])))
        rw [getD_set, if_neg (fun q => h2 q.1), HN.out x h1])
      have HC2 : Hid ((tset T (cs ++ [c])).count true = T.count true + (cs ++ [c]).length) := hide2 (by rw [hcnt]; simp; omega)
      have hcs : c < 65536 := by rw [tset_len] at hcl; omega
      clear ha hcf hmin hcnt HZ HN HC
      obtain ⟨ao, capv, ev⟩ := HR.out.form
      subst ev
      go_wp2_with fail
      refine HAL.out.mono ?_
      rintro e w1 ⟨rfl, hA1, hF1⟩
      have hr1 : Hr w1 w.heap.size (.slice ao cs.length capv) cs := hrow_fr HR.out hF1 (fun j e => by
        have := (World.ownsRow.lt HR.out j e).1
        rintro (q | q) <;> omega)
      have HR1 : Hid (w1.ownsRow w.heap.size 3 1 (.slice ao cs.length capv) cs.length (cs.map nv)) := hide2 hr1
      have HA1 := hide2 hA1
      have HF1 := hide2 (HF.out.trans hF1 (fun j e => .inl e))
      have hs1 := HF1.out.size
      have HNEW := hide2 (hcell_new w1 (.int .i64 (c : Int)) 3)
      clear HAL hA1 hF1 hr1
      go_wp2_with (at_builtin; refine Hid.out ?_)
      refine hide2 ?_
      refine wpList_append_own_at _ rfl _ _ 29 rfl w.heap.size 3 i0 (.int .i64 0) 1 8 Tryd.underlying29 hi0 z0 z1 z2 rfl (by decide) (.slice ao cs.length capv) _ _ rfl (World.ownsRow.alloc HR1.out _) ⟨w1.heap.size, 0, none⟩ 1 1 [.int .i64 (c : Int)] rfl rfl HNEW.out (by simp [Value.oneCell']) (by unfold maxLen; omega) (by omega) (by simp; omega) ?_
      intro v' w4 hown4 hgrow4 hat4 hb4
      obtain ⟨gt, capt, ev⟩ := hrow_succ hown4
      have hFg : Fr (fun j => w.heap.size ≤ j) w1 w4 := ((Fr.refl (fun j => w.heap.size ≤ j) w1).alloc (.cells #[.int .i64 (c : Int)] 3)).trans (G := fun j => w.heap.size ≤ j) (Fr.grown hgrow4 (fun j e => (World.ownsRow.lt HR1.out j e).1)) (fun j e => .inl e)
      have HA4 := hide2 (HA1.out.fr hFg (by omega) (by omega))
      have HF4 : Hid (Fr (fun j => j = d ∨ j = g) w w4) := hide2 (HF1.out.trans hFg (fun j e => .inr e))
      have HR4 : Hid (Hr w4 w.heap.size v' (cs ++ [c])) := hide2 (by
        unfold Hr
        rw [List.length_append, List.length_singleton, List.map_append]
        exact hown4)
      clear hown4 hgrow4 hat4 hb4 hFg HNEW HR1 HR HA1 HF1 HA HF
      subst ev
      go_frame
      go_wp2
      go_roundw
      case rel => exact ⟨cs ++ [c], N'.set c 0, _, by simp; omega, by simp, HFS2, HR4, HA4, HZ2, HN2, HC2, HF4⟩
      case measure => simp [intOf]; omega
    · have hkn2 : cs.length = n := by omega
      have hki : ¬ (cs.length : Int) < (n : Int) := by omega
      have hki2 : decide ((cs.length : Int) < (n : Int)) = false := by simp; omega
      obtain ⟨ao, capv, ev⟩ := HR.out.form
      subst ev
      go_wp2
      go_loopw [36] (fun i w2 => ∃ (k : Nat) (N2 : List Int) (m2 : Int), k ≤ n ∧ i = .int .i64 (k : Nat) ∧ m ≤ m2 ∧ m2 ≤ m + k ∧ Hid (Hr w2 w.heap.size (.slice ao cs.length capv) cs) ∧ Hid (Aw w2 d g (tset T cs) N2 m2 F') ∧ Hid (∀ (i c : Nat) (x : Int), cs[i]? = some c → xs[i]? = some x → i < k → N2.getD c 0 = x) ∧ Hid (∀ (i c : Nat), cs[i]? = some c → k ≤ i → N2.getD c 0 = 0) ∧ Hid (∀ c, c ∉ cs → N2.getD c 0 = N.getD c 0) ∧ Hid (Fr (fun j => j = d ∨ j = g) w w2)) (fun i _ => n - (intOf i).toNat)
      case atStart => exact ⟨0, N', m, Nat.zero_le _, rfl, by omega, by omega, HR, HA, hide2 (fun _ _ _ _ _ q => absurd q (by omega)), hide2 (fun i c hi _ => HZ.out c (List.mem_of_getElem? hi)), HN, HF⟩
      case round =>
        clear HA HF hsz hc1 HR HZ HN
        obtain ⟨k, N2, m2, hk2, rfl, hm1, hm2, HR, HA, HX, HZ, HN, HF⟩ := hrel
        have hsz := HF.out.size
        have hc1 : wr.cell? ⟨sb, 0, none⟩ = some (.pointer (some ⟨d, 0, none⟩)) := (HF.out.cell (p := ⟨sb, 0, none⟩) hl (by rintro (e | e); exact hsd e; exact hsg e)).trans hc
        by_cases hkk : k < n
        · have hki3 : decide ((k : Int) < (n : Int)) = true := by simp; omega
          have hki4 : (k : Int) < (n : Int) := by omega
          obtain ⟨x, hxk⟩ : ∃ x, xs[k]? = some x := ⟨_, List.getElem?_eq_getElem (by omega)⟩
          have hck : cs[k]? = some (cs[k]'(by omega)) := List.getElem?_eq_getElem (by omega)
          obtain ⟨c, hcc⟩ : ∃ c, c = cs[k]'(by omega) := ⟨_, rfl⟩
          rw [← hcc] at hck
          have hcx : wr.cell? ⟨sg, k, none⟩ = some (.int .u64 x) := (HF.out.cell (p := ⟨sg, k, none⟩) hgl (by rintro (e | e); exact hgd e; exact hgg e)).trans (HNUM.out k x hxk)
          have hxb := HBD.out x (List.mem_of_getElem? hxk)
          obtain ⟨gt, cp, egt, hgc⟩ := HR.out.at (i := k) (by omega)
          have hgd2 : cs.getD k 0 = c := by simp [List.getD, hck]
          rw [hgd2] at hgc
          simp only [Value.slice.injEq, true_and] at egt
          obtain ⟨rfl, rfl⟩ := egt
          have hcm2 : c ∈ cs := List.mem_of_getElem? hck
          have hkc : k < cs.length := by omega
          have HCK := hide2 hck
          have HXK := hide2 hxk
          clear hck hxk hcc hgd2
          by_cases hx0 : x = 0
          · subst hx0
            go_wp2
            go_roundw
            case rel => exact ⟨k + 1, N2, m2, by omega, by go_num, hm1, by omega, HR, HA, hide2 (fun i c' x' h1 h2 h3 => by
                rcases Nat.lt_or_ge i k with q | q
                · exact HX.out i c' x' h1 h2 q
                · have e : i = k := by omega
                  subst e
                  rw [HXK.out] at h2
                  cases h2
                  exact HZ.out i c' h1 (by omega)), hide2 (fun i c' h1 h2 => HZ.out i c' h1 (by omega)), HN, HF⟩
            case measure => simp [intOf]; omega
          · have hx1 : decide (x = 0) = false := by simp [hx0]
            have hct : tk (tset T cs) (c : Int) = true := by
              have hf := HFS.out.2 c hcm2
              have := tset_at cs T c false
              rw [if_pos ⟨hcm2, getD_free hf⟩] at this
              unfold tk
              rw [Int.toNat_natCast, this]
              simp
            have HAd : Hid (Aw wr.drew d g (tset T cs) N2 m2 F') := hide2 (HA.out.same rfl rfl)
            have HST := hide2 (sStore_any HAd.out c hct x hxb (by omega))
            have hkd : decide ((k : Int) < (cs.length : Int)) = true := by simp; omega
            have hkd2 : (k : Int) < (cs.length : Int) := by omega
            have hcl2 : c < N2.length := by
              have := getD_free (HFS.out.2 c hcm2)
              rw [← HA.out.len, tset_len]; exact this
            have hgtl : gt < wr.heap.size ∧ w.heap.size ≤ gt := by
              have := World.ownsRow.lt HR.out gt (by simp [Value.ownBlock])
              exact ⟨this.2, this.1⟩
            have FRC : Hid (∀ w5, Fr (fun j => j = d ∨ j = g) wr.drew w5 → w5.cell? ⟨sb, 0, none⟩ = some (.pointer (some ⟨d, 0, none⟩)) ∧ w5.cell? ⟨gt, k, none⟩ = some (.int .i64 (c : Int))) := hide2 (fun w5 h5 => ⟨(h5.cell (p := ⟨sb, 0, none⟩) (show sb < wr.heap.size by omega) (by rintro (e | e); exact hsd e; exact hsg e)).trans hc1, (h5.cell (p := ⟨gt, k, none⟩) (show gt < wr.heap.size from hgtl.1) (show ¬ (gt = d ∨ gt = g) by omega)).trans hgc⟩)
            go_wp2_with fail
            refine wp_region_noPanic ?_
            refine wp_region_held_drew (S := (fun u : World => u.cell? ⟨sb, 0, none⟩ = some (.pointer (some ⟨d, 0, none⟩)) ∧ u.cell? ⟨gt, k, none⟩ = some (.int .i64 (c : Int)))) (by kernel_rfl) (⟨hc1, hgc⟩) (fun hHeld => ?_)
            refine wpAnyH_take (i := 0) (oi := { dst := some 43, op := _, type := _, pos := _, after := _, guard := _ }) (v := ?_) rfl (by kernel_rfl) (by kernel_rfl) (by kernel_rfl) (fun _ _ _ h => h) (Or.inl ⟨by rfl, ?_⟩) (by assumption) ?_
            rotate_left 1
            · intro u hSw; obtain ⟨s1, s2⟩ := hSw; go_simp; try with_reducible rfl
            try simp only [Act.put, List.setIfInBounds_toArray, List.set_cons_zero, List.set_cons_succ]
            refine wpAnyH_take (i := 1) (oi := { dst := some 44, op := _, type := _, pos := _, after := _, guard := _ }) (v := ?_) rfl (by kernel_rfl) (by kernel_rfl) (by kernel_rfl) (fun _ _ _ h => h) (Or.inl ⟨by rfl, ?_⟩) (by assumption) ?_
            rotate_left 1
            · intro u hSw; obtain ⟨s1, s2⟩ := hSw; go_simp; try with_reducible rfl
            try simp only [Act.put, List.setIfInBounds_toArray, List.set_cons_zero, List.set_cons_succ]
            refine wpAnyH_take (i := 2) (oi := { dst := some 45, op := _, type := _, pos := _, after := _, guard := _ }) (v := ?_) rfl (by kernel_rfl) (by kernel_rfl) (by kernel_rfl) (fun _ _ _ h => h) (Or.inl ⟨by rfl, ?_⟩) (by assumption) ?_
            rotate_left 1
            · intro u hSw; obtain ⟨s1, s2⟩ := hSw; go_simp; try with_reducible rfl
            try simp only [Act.put, List.setIfInBounds_toArray, List.set_cons_zero, List.set_cons_succ]
            refine wpAnyH_take (i := 3) (oi := { dst := some 46, op := _, type := _, pos := _, after := _, guard := _ }) (v := ?_) rfl (by kernel_rfl) (by kernel_rfl) (by kernel_rfl) (fun _ _ _ h => h) (Or.inl ⟨by rfl, ?_⟩) (by assumption) ?_
            rotate_left 1
            · intro u hSw; obtain ⟨s1, s2⟩ := hSw; go_simp; try with_reducible rfl
            try simp only [Act.put, List.setIfInBounds_toArray, List.set_cons_zero, List.set_cons_succ]
            refine wpAnyH_take (i := 4) (oi := { dst := some 47, op := _, type := _, pos := _, after := _, guard := _ }) (v := ?_) rfl (by kernel_rfl) (by kernel_rfl) (by kernel_rfl) (fun _ _ _ h => h) (Or.inl ⟨by rfl, ?_⟩) (by assumption) ?_
            rotate_left 1
            · intro u hSw; obtain ⟨s1, s2⟩ := hSw; go_simp; try with_reducible rfl
            try simp only [Act.put, List.setIfInBounds_toArray, List.set_cons_zero, List.set_cons_succ]
            refine wpAnyH_take (i := 5) (oi := { dst := some 48, op := _, type := _, pos := _, after := _, guard := _ }) (v := ?_) rfl (by kernel_rfl) (by kernel_rfl) (by kernel_rfl) (fun _ _ _ h => h) (Or.inl ⟨by rfl, ?_⟩) (by assumption) ?_
            rotate_left 1
            · intro u hSw; obtain ⟨s1, s2⟩ := hSw; go_simp; try with_reducible rfl
            try simp only [Act.put, List.setIfInBounds_toArray, List.set_cons_zero, List.set_cons_succ]
            refine wpAnyH_take (i := 6) (oi := { dst := some 49, op := _, type := _, pos := _, after := _, guard := _ }) (v := ?_) rfl (by kernel_rfl) (by kernel_rfl) (by kernel_rfl) (fun _ _ _ h => h) (Or.inl ⟨by rfl, ?_⟩) (by assumption) ?_
            rotate_left 1
            · intro u hSw; obtain ⟨s1, s2⟩ := hSw; go_simp; try with_reducible rfl
            try simp only [Act.put, List.setIfInBounds_toArray, List.set_cons_zero, List.set_cons_succ]
            refine wpAnyH_take (i := 7) (oi := { dst := some 50, op := _, type := _, pos := _, after := _, guard := _ }) (v := ?_) rfl (by kernel_rfl) (by kernel_rfl) (by kernel_rfl) (fun _ _ _ h => h) (Or.inl ⟨by rfl, ?_⟩) (by assumption) ?_
            rotate_left 1
            · intro u hSw; obtain ⟨s1, s2⟩ := hSw; go_simp; try with_reducible rfl
            try simp only [Act.put, List.setIfInBounds_toArray, List.set_cons_zero, List.set_cons_succ]
            refine wpAnyH_take (i := 8) (oi := { dst := some 51, op := _, type := _, pos := _, after := _, guard := _ }) (v := ?_) rfl (by kernel_rfl) (by kernel_rfl) (by kernel_rfl) (fun _ _ _ h => h) (Or.inl ⟨by rfl, ?_⟩) (by assumption) ?_
            rotate_left 1
            · intro u hSw; obtain ⟨s1, s2⟩ := hSw; go_simp; try with_reducible rfl
            try simp only [Act.put, List.setIfInBounds_toArray, List.set_cons_zero, List.set_cons_succ]
            refine wpAnyH_ready (rs := [9]) (by kernel_rfl) (by simp) ?_
            refine AllReadyH.cons (o := { dst := some 52, op := _, type := _, pos := _, after := _, guard := _ }) rfl (fun Kq hK => ?_) AllReadyH.nil
            obtain ⟨s1, s2⟩ := hHeld
            go_simp
            refine HST.out.mono ?_
            rintro e w5 ⟨rfl, hA5, hF5⟩
            go_wp2_with fail
            refine hK.out _ _ (FRC.out w5 hF5) (fun hHeld => ?_)
            clear hK Kq
            try simp only [Act.put, List.setIfInBounds_toArray, List.set_cons_zero, List.set_cons_succ]
            refine wpAnyH_done (by kernel_rfl) ?_ _
            refine NoPanic.normal ?_
            have HR5 : Hid (Hr w5 w.heap.size (.slice (some ⟨gt, 0, none⟩) cs.length capv) cs) := hide2 (hrow_fr (w := wr.drew) (World.ownsRow.drew HR.out) hF5 (fun j e => by
              have := (World.ownsRow.lt HR.out j e).1
              rintro (q | q) <;> omega))
            have HA5 := hide2 hA5
            have HF5 : Hid (Fr (fun j => j = d ∨ j = g) w w5) := hide2 (HF.out.drew.trans hF5 (fun j e => .inl e))
            have HX5 : Hid (∀ (i c' : Nat) (x' : Int), cs[i]? = some c' → xs[i]? = some x' → i < k + 1 → (N2.set c x).getD c' 0 = x') := hide2 (fun i c' x' h1 h2 h3 => by
              rw [getD_set]
              rcases Nat.lt_or_ge i k with q | q
              · have hne : c' ≠ c := fun e => by
                  subst e
                  have := (List.getElem?_inj (h₀ := (List.getElem?_eq_some_iff.1 h1).1) HFS.out.1).1 (h1.trans HCK.out.symm)
                  omega
                rw [if_neg (fun e => hne e.1)]
                exact HX.out i c' x' h1 h2 q
              · have e : i = k := by omega
                subst e
                rw [HXK.out] at h2
                rw [HCK.out] at h1
                cases h1
                cases h2
                rw [if_pos ⟨rfl, hcl2⟩])
            have HZ5 : Hid (∀ (i c' : Nat), cs[i]? = some c' → k + 1 ≤ i → (N2.set c x).getD c' 0 = 0) := hide2 (fun i c' h1 h2 => by
              have hne : c' ≠ c := fun e => by
                subst e
                have := (List.getElem?_inj (h₀ := (List.getElem?_eq_some_iff.1 h1).1) HFS.out.1).1 (h1.trans HCK.out.symm)
                omega
              rw [getD_set, if_neg (fun e => hne e.1)]
              exact HZ.out i c' h1 (by omega))
            have HN5 : Hid (∀ c', c' ∉ cs → (N2.set c x).getD c' 0 = N.getD c' 0) := hide2 (fun c' h1 => by
              rw [getD_set, if_neg (fun (e : c' = c ∧ c < N2.length) => h1 (e.1 ▸ hcm2))]
              exact HN.out c' h1)
            clear hA5 hF5 HST FRC HX HZ HN HA HAd HF HR
            go_wp2
            go_roundw
            case rel => exact ⟨k + 1, N2.set c x, m2 + 1, by omega, by go_num, by omega, by omega, HR5, HA5, HX5, HZ5, HN5, HF5⟩
            case measure => simp [intOf]; omega
        · have hki3 : decide ((k : Int) < (n : Int)) = false := by simp; omega
          have hki4 : ¬ (k : Int) < (n : Int) := by omega
          have hkn3 : k = n := by omega
          go_wp2
          go_ret2
          exact ⟨_, rfl, cs, N2, m2, F', (by have q := HR.out; rw [hkn2] at q; exact q), by omega, HFS.out, HA.out, hm1, by omega, fun i c x h1 h2 => HX.out i c x h1 h2 (by have := (List.getElem?_eq_some_iff.1 h1).1; omega), HN.out, by rw [HC.out, hkn2], HF.out⟩
end
end Go.Proofs.YtfhcphgjaobnoaaDoor
