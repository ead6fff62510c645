/-
  The document's own rows of names: find, without.
-/
import Derived.Test.YtmggmnbialacbaaDp11
import Derived.Laws.OwnMore
import Derived.WalkSmall
import Derived.Maps.AppendAt
import Derived.Lib.OwnKind
import Derived.Laws.AppendOwnNone
import Derived.BigQuiet
set_option linter.unusedVariables false
set_option linter.unusedSimpArgs false
namespace Go.Proofs.Ytmggmnbialacbaa
open Go.RowKit Go.Maps

/-- A row of names, with the number of each one's file. -/
abbrev NL := List (ByteArray × Int)
def nc (l : NL) : List Value := l.flatMap fun p => [.string p.1, .int .i64 p.2]
theorem nc_len (l : NL) : (nc l).length = l.length * 2 := by
  induction l with
  | nil => rfl
  | cons p l ih => simp only [nc, List.flatMap_cons, List.length_append, List.length_cons, List.length_nil] at *; omega
theorem nc_append (l m : NL) : nc (l ++ m) = nc l ++ nc m := by simp [nc]
theorem nc_at (l : NL) : ∀ (i : Nat) (p : ByteArray × Int), l[i]? = some p → (nc l)[i * 2]? = some (.string p.1) ∧ (nc l)[i * 2 + 1]? = some (.int .i64 p.2) := by
  induction l with
  | nil => intro i p h; cases h
  | cons q l ih =>
    intro i p h
    have e : nc (q :: l) = .string q.1 :: .int .i64 q.2 :: nc l := rfl
    cases i with
    | zero =>
      cases h
      exact ⟨rfl, rfl⟩
    | succ i =>
      obtain ⟨h1, h2⟩ := ih i p (by simpa using h)
      rw [e, show (i + 1) * 2 = i * 2 + 1 + 1 by omega]
      exact ⟨h1, h2⟩
/-- A row of names in memory, from block B on. -/
abbrev Nr (w : World) (B : Nat) (v : Value) (l : NL) : Prop := w.ownsRow B 101 2 v l.length (nc l)

theorem Nr.row {w : World} {B : Nat} {v : Value} {l : NL} (h : Nr w B v l) (hl : 0 < l.length) : ∃ g cap, v = .slice (some ⟨g, 0, none⟩) l.length cap ∧ B ≤ g ∧ g < w.heap.size ∧ ∀ i p, l[i]? = some p → w.cell? ⟨g, i * 2, none⟩ = some (.string p.1) ∧ w.cell? ⟨g, i * 2 + 1, none⟩ = some (.int .i64 p.2) := by
  obtain ⟨g, cap, rfl⟩ := Go.Joins.ownsRow_form h hl
  refine ⟨g, cap, rfl, (h.lt g rfl).1, (h.lt g rfl).2, fun i p hp => ?_⟩
  have hi := (List.getElem?_eq_some_iff.1 hp).1
  obtain ⟨h1, h2⟩ := nc_at l i p hp
  exact ⟨(h.cellAt (i * 2) (by omega)).trans h1, (h.cellAt (i * 2 + 1) (by omega)).trans h2⟩
theorem Nr.form {w : World} {B : Nat} {v : Value} {l : NL} (h : Nr w B v l) : ∃ ao cap, v = .slice ao l.length cap := by
  rcases Go.Joins.ownsRow_forms h with ⟨rfl, h0⟩ | ⟨g, cap, rfl⟩
  · exact ⟨none, 0, by rw [h0]⟩
  · exact ⟨_, cap, rfl⟩

/-- Which file a name is, or -1. -/
def nfind (l : NL) (s : ByteArray) : Int := match l.find? (fun p => decide (p.1 = s)) with | some p => p.2 | none => -1
def nwithout (l : NL) (s : ByteArray) : NL := l.filter fun p => !decide (p.1 = s)

theorem str_test (a b : ByteArray) : (a.toList == b.toList) = decide (a = b) := by
  rw [ByteArray.toList_eq, ByteArray.toList_eq]
  by_cases h : a = b
  · subst h; simp
  · have : ¬ a.data.toList = b.data.toList := fun e => h (ByteArray.ext (Array.toList_inj.1 e))
    rw [decide_eq_false h]
    exact beq_eq_false_iff_ne.2 this

set_option maxRecDepth 100000 in
set_option maxHeartbeats 1000000 in
theorem find_ref {w : World} {B : Nat} {v : Value} {l : NL} (h : Nr w B v l) (hl : l.length ≤ 100000) (s : ByteArray) :
    Calls Try.prog 58 #[v, .string s] w fun e w' => e = .returned (.int .i64 (nfind l s)) ∧ w' = w := by
  obtain ⟨ao, cap, rfl⟩ := h.form
  have HR := hide2 h.row
  go_enter Try.func58, Try.ntmps58
  go_wp2
  go_loop [5] (fun i => ∃ k : Nat, k ≤ l.length ∧ i = .int .i64 k ∧ nfind l s = nfind (l.drop k) s) (fun i => l.length - (intOf i).toNat)
  case atStart => exact ⟨0, by omega, rfl, rfl⟩
  case round =>
    obtain ⟨k, hk, rfl, he⟩ := hrel
    by_cases hkl : k < l.length
    · obtain ⟨g, cap', e, hg, hgl, hcell⟩ := HR.out (by omega)
      cases e
      obtain ⟨p, hp⟩ : ∃ p, l[k]? = some p := ⟨l[k], List.getElem?_eq_getElem hkl⟩
      obtain ⟨q0, q1⟩ := hcell k p hp
      have hdrop : l.drop k = p :: l.drop (k + 1) := by
        rw [List.drop_eq_getElem_cons hkl]
        rw [List.getElem?_eq_getElem hkl] at hp
        cases hp
        rfl
      have hc2 : (k : Int) < (l.length : Int) := by omega
      have HE := hide2 he
      clear hcell he
      by_cases hps : p.1 = s
      · have e1 : nfind l s = p.2 := by
          rw [HE.out, hdrop]
          simp [nfind, hps]
        have t1 : (p.1.toList == s.toList) = true := by rw [str_test]; simpa using hps
        have E1 := hide2 e1
        clear e1 HE hdrop hps hp
        go_wp2
        go_ret
        exact ⟨ret_int E1.out.symm, rfl⟩
      · have e1 : nfind l s = nfind (l.drop (k + 1)) s := by
          rw [HE.out, hdrop]
          simp [nfind, hps]
        have t1 : (p.1.toList == s.toList) = false := by rw [str_test]; simpa using hps
        have E1 := hide2 e1
        clear e1 HE hdrop hps hp
        go_wp2
        go_round
        case rel => exact ⟨k + 1, by omega, by go_num, E1.out⟩
        case measure => simp [intOf]; omega
    · obtain rfl : k = l.length := by omega
      have e1 : nfind l s = -1 := by rw [he]; simp [nfind]
      have E1 := hide2 e1
      clear e1 he
      go_wp2
      go_ret
      exact ⟨ret_int E1.out.symm, rfl⟩

theorem infoN : (Try.prog.info? 101).map (fun i => (i.zero, i.size, i.bytes)) = some (some (.agg #[.string .empty, .int .i64 0]), 2, 24) := by kernel_rfl

set_option maxRecDepth 100000 in
set_option maxHeartbeats 2000000 in
theorem without_ref {w : World} {B : Nat} {v : Value} {l : NL} (h : Nr w B v l) (hl : l.length ≤ 100000) (s : ByteArray) :
    Calls Try.prog 71 #[v, .string s] w fun e w' => ∃ v', e = .returned v' ∧ Nr w' w.heap.size v' (nwithout l s) ∧ Below w.heap.size w w' := by
  obtain ⟨i0, hi, hz0, hz1, hz2⟩ := info_parts infoN
  obtain ⟨ao, cap, rfl⟩ := h.form
  have HR := hide2 h.row
  go_enter Try.func71, Try.ntmps71
  go_wp2
  go_loopw [5, 6] (fun v i wr => ∃ k : Nat, k ≤ l.length ∧ i = .int .i64 k ∧ Nr wr w.heap.size v (nwithout (l.take k) s) ∧ Below w.heap.size w wr) (fun _ i _ => l.length - (intOf i).toNat)
  case atStart => exact ⟨0, by omega, rfl, ⟨rfl, .inl ⟨rfl, rfl⟩⟩, Below.refl _ _⟩
  case round =>
    obtain ⟨k, hk, rfl, hown, hB⟩ := hrel
    by_cases hkl : k < l.length
    · obtain ⟨g, cap', e, hg, hgl, hcell⟩ := HR.out (by omega)
      cases e
      obtain ⟨p, hp⟩ : ∃ p, l[k]? = some p := ⟨l[k], List.getElem?_eq_getElem hkl⟩
      obtain ⟨q0, q1⟩ := hcell k p hp
      have c0 : wr.cell? ⟨g, k * 2, none⟩ = some (.string p.1) := (hB.cell (p := ⟨g, k * 2, none⟩) hgl).trans q0
      have c1 : wr.cell? ⟨g, k * 2 + 1, none⟩ = some (.int .i64 p.2) := (hB.cell (p := ⟨g, k * 2 + 1, none⟩) hgl).trans q1
      have hts : l.take (k + 1) = l.take k ++ [p] := by
        rw [List.take_add_one, hp]; rfl
      have hc2 : (k : Int) < (l.length : Int) := by omega
      have hol : (nwithout (l.take k) s).length ≤ k := Nat.le_trans (List.length_filter_le _ _) (by simp; omega)
      have hsz := hB.size
      clear hcell q0 q1
      by_cases hps : p.1 = s
      · have e1 : nwithout (l.take (k + 1)) s = nwithout (l.take k) s := by
          rw [hts]
          simp [nwithout, hps]
        have t1 : (p.1.toList == s.toList) = true := by rw [str_test]; simpa using hps
        have E1 := hide2 e1
        clear e1 hts hps hp
        go_wp2
        go_roundw
        case rel => exact ⟨k + 1, by omega, by go_num, by rw [E1.out]; exact hown, hB⟩
        case measure => simp [intOf]; omega
      · have e1 : nwithout (l.take (k + 1)) s = nwithout (l.take k) s ++ [p] := by
          rw [hts]
          simp [nwithout, hps]
        have t1 : (p.1.toList == s.toList) = false := by rw [str_test]; simpa using hps
        have E1 := hide2 e1
        have HO := hide2 hown
        clear e1 hts hps hp
        go_wp2_with (first
          | (at_builtin; refine Hid.out ?_)
          | go_in)
        refine hide2 ?_
        refine wpList_append_own _ rfl _ _ 63 rfl w.heap.size 101 i0 (.agg #[.string .empty, .int .i64 0]) 2 24 Try.underlying63 hi hz0 hz1 hz2 rfl (by decide) u5 _ _ rfl (World.ownsRow.alloc HO.out _) ⟨wr.heap.size, 0, none⟩ 1 1 [.string p.1, .int .i64 p.2] rfl rfl (cell_two_new _ _ _ _) (by intro u hu; simp at hu; rcases hu with rfl | rfl <;> rfl) (by unfold maxLen; omega) (by omega) (by simp; omega) ?_
        intro v' w2 hown' hgrow _
        have hB2 : Below w.heap.size w w2 := (hB.alloc hsz (.cells #[.string p.1, .int .i64 p.2] 101)).trans ((Below.refl _ _).grown hgrow (by simp; omega) fun k hk => (World.ownsRow.lt HO.out k hk).1)
        have ho2 : Nr w2 w.heap.size v' (nwithout (l.take k) s ++ [p]) := by
          unfold Nr
          rw [nc_append, List.length_append]
          exact hown'
        clear hown' hgrow HO hown c0 c1
        go_frame
        go_wp2
        go_roundw
        case rel => exact ⟨k + 1, by omega, by go_num, by rw [E1.out]; exact ho2, hB2⟩
        case measure => simp [intOf]; omega
    · obtain rfl : k = l.length := by omega
      rw [List.take_length] at hown
      go_wp2
      go_ret
      exact ⟨_, rfl, hown, hB⟩
end Go.Proofs.Ytmggmnbialacbaa

/-
  The document's own rows of names: with, changed.
-/
set_option linter.unusedVariables false
set_option linter.unusedSimpArgs false
namespace Go.Proofs.Ytmggmnbialacbaa
open Go.RowKit Go.Maps

def nless (a b : ByteArray) : Bool := Op.bytesLess a.toList b.toList
def nwith (l : NL) (s : ByteArray) (i : Int) : NL := (nwithout l s).takeWhile (fun p => nless p.1 s) ++ [(s, i)] ++ (nwithout l s).dropWhile (fun p => nless p.1 s)

theorem while_at {α : Type} (f : α → Bool) : ∀ (l : List α) (k : Nat), (∀ x ∈ l.take k, f x = true) → (∀ x, l[k]? = some x → f x = false) → l.takeWhile f = l.take k ∧ l.dropWhile f = l.drop k
  | [], k, _, _ => by simp
  | x :: l, 0, _, h => by
    have := h x rfl
    simp [List.takeWhile, List.dropWhile, this]
  | x :: l, k + 1, h1, h2 => by
    have hx : f x = true := h1 x (by simp)
    obtain ⟨e1, e2⟩ := while_at f l k (fun y hy => h1 y (by simp [hy])) (fun y hy => h2 y (by simpa using hy))
    simp [List.takeWhile, List.dropWhile, hx, e1, e2]

/-- The rest of a row, as a slice. -/
theorem Nr.from {w : World} {B : Nat} {v : Value} {l : NL} (h : Nr w B v l) (k : Nat) (hk : k ≤ l.length) :
    (v = .slice none 0 0 ∧ l = [] ∧ ∀ u : World, (Instr.slice 63 v (some (.int .i64 (k : Int))) none none).run Try.prog u = .ok (.slice none 0 0) u) ∨
    ∃ g o c, g < w.heap.size ∧ (∀ u : World, (Instr.slice 63 v (some (.int .i64 (k : Int))) none none).run Try.prog u = .ok (.slice (some ⟨g, o, none⟩) (l.length - k) c) u) ∧ ∀ j x, (nc (l.drop k))[j]? = some x → w.cell? ⟨g, o + j, none⟩ = some x := by
  have ht : Try.prog.underlying 63 = some (.slice (Try.prog.elem 63)) := by kernel_rfl
  have he : Try.prog.elem 63 = 101 := by kernel_rfl
  have hs : ∀ u : World, (Go.sizeOf 101).run Try.prog u = .ok 2 u := fun u => by kernel_rfl
  rcases h.2 with ⟨rfl, h0⟩ | ⟨g, cap, cur, rfl, hB, hh, hle, hm, hsz, htk⟩
  · have hl : l = [] := List.eq_nil_of_length_eq_zero h0
    subst hl
    have hk0 : k = 0 := by simpa using hk
    subst hk0
    refine .inl ⟨rfl, rfl, fun u => ?_⟩
    rw [run_slice_l u 63 none 0 0 ht .i64 ((0 : Nat) : Int) (by omega) (by omega), he, hs]
    simp [Result.andThen, sliced]
  · have hgl := (Array.getElem?_eq_some_iff.1 hh).1
    refine .inr ⟨g, if cap = k then 0 else k * 2, cap - k, hgl, fun u => ?_, fun j x hx => ?_⟩
    · rw [run_slice_l u 63 (some ⟨g, 0, none⟩) l.length cap ht .i64 (k : Int) (by omega) (by omega), he, hs]
      simp only [Result.andThen, sliced, Int.toNat_natCast]
      by_cases e : cap = k
      · rw [if_pos e, if_pos e]
      · rw [if_neg e, if_neg e]
        simp [addr_add]
    · have hj := (List.getElem?_eq_some_iff.1 hx).1
      rw [nc_len, List.length_drop] at hj
      rw [if_neg (by omega)]
      have h1 := World.ownsRow.cellAt h (k * 2 + j) (by omega)
      rw [h1]
      have e2 : nc l = nc (l.take k) ++ nc (l.drop k) := by rw [← nc_append, List.take_append_drop]
      have e3 : (nc (l.take k)).length = k * 2 := by rw [nc_len, List.length_take, Nat.min_eq_left hk]
      rw [e2, List.getElem?_append_right (by omega), e3, Nat.add_sub_cancel_left]
      exact hx

theorem nc_one (l : NL) : ∀ u ∈ nc l, u.oneCell' = true := by
  intro u hu
  obtain ⟨p, _, hp⟩ := List.mem_flatMap.1 hu
  simp at hp
  rcases hp with rfl | rfl <;> rfl
theorem nwithout_le (l : NL) (s : ByteArray) : (nwithout l s).length ≤ l.length := List.length_filter_le _ _

set_option maxRecDepth 100000 in
set_option maxHeartbeats 4000000 in
theorem with_ref {w : World} {B : Nat} {v : Value} {l : NL} (h : Nr w B v l) (hl : l.length ≤ 100000) (s : ByteArray) (at0 : Int) :
    Calls Try.prog 70 #[v, .string s, .int .i64 at0] w fun e w' => ∃ v', e = .returned v' ∧ Nr w' w.heap.size v' (nwith l s at0) ∧ Below w.heap.size w w' := by
  obtain ⟨i0, hi, hz0, hz1, hz2⟩ := info_parts infoN
  have HW := hide2 (without_ref h hl s)
  have hrl : (nwithout l s).length ≤ 100000 := Nat.le_trans (nwithout_le l s) hl
  clear h
  go_enter Try.func70, Try.ntmps70
  go_wp2_with fail
  refine HW.out.mono ?_
  rintro e w1 ⟨rv, rfl, hr, hB1⟩
  have hw : nwith l s at0 = (nwithout l s).takeWhile (fun p => nless p.1 s) ++ [(s, at0)] ++ (nwithout l s).dropWhile (fun p => nless p.1 s) := rfl
  have HWD := hide2 hw
  clear HW hw
  generalize nwithout l s = R at *
  have hs1 := hB1.size
  obtain ⟨ao, cap, rfl⟩ := hr.form
  have HR := hide2 hr
  have HROW := hide2 hr.row
  clear hr
  go_wp2
  go_loopw [8, 9] (fun v i wr => ∃ k : Nat, k ≤ R.length ∧ i = .int .i64 k ∧ (∀ x ∈ R.take k, nless x.1 s = true) ∧ Nr wr w1.heap.size v (R.take k) ∧ Below w1.heap.size w1 wr) (fun _ i _ => R.length - (intOf i).toNat)
  case atStart => exact ⟨0, by omega, rfl, fun x hx => by simp at hx, ⟨rfl, .inl ⟨rfl, rfl⟩⟩, Below.refl _ _⟩
  case round =>
    obtain ⟨k, hk, rfl, hall, hown, hB⟩ := hrel
    have hsz := hB.size
    have htl : (R.take k).length = k := by rw [List.length_take, Nat.min_eq_left hk]
    by_cases hgo : ∃ p, R[k]? = some p ∧ nless p.1 s = true
    · obtain ⟨p, hp, hps⟩ := hgo
      have hkl := (List.getElem?_eq_some_iff.1 hp).1
      obtain ⟨g, cap', e, hg, hgl, hcell⟩ := HROW.out (by omega)
      cases e
      obtain ⟨q0, q1⟩ := hcell k p hp
      have c0 : wr.cell? ⟨g, k * 2, none⟩ = some (.string p.1) := (hB.cell (p := ⟨g, k * 2, none⟩) hgl).trans q0
      have c1 : wr.cell? ⟨g, k * 2 + 1, none⟩ = some (.int .i64 p.2) := (hB.cell (p := ⟨g, k * 2 + 1, none⟩) hgl).trans q1
      have hts : R.take (k + 1) = R.take k ++ [p] := by rw [List.take_add_one, hp]; rfl
      have hc2 : (k : Int) < (R.length : Int) := by omega
      have t3 : decide ((k : Int) < (R.length : Int)) = true := by simpa using hkl
      have t4 : decide (k < R.length) = true := by simpa using hkl
      have t1 : Op.bytesLess p.1.toList s.toList = true := hps
      have HTS := hide2 hts
      have HO := hide2 hown
      have HALL := hide2 hall
      clear hcell q0 q1 hts hown hall
      go_wp2_with (first
        | (at_builtin; refine Hid.out ?_)
        | go_in)
      refine hide2 ?_
      refine wpList_append_own _ rfl _ _ 63 rfl w1.heap.size 101 i0 (.agg #[.string .empty, .int .i64 0]) 2 24 Try.underlying63 hi hz0 hz1 hz2 rfl (by decide) u8 _ _ rfl (World.ownsRow.alloc HO.out _) ⟨wr.heap.size, 0, none⟩ 1 1 [.string p.1, .int .i64 p.2] rfl rfl (cell_two_new _ _ _ _) (by intro u hu; simp at hu; rcases hu with rfl | rfl <;> rfl) (by unfold maxLen; omega) (by omega) (by simp; omega) ?_
      intro v' w2 hown' hgrow _
      have hB2 : Below w1.heap.size w1 w2 := (hB.alloc hsz (.cells #[.string p.1, .int .i64 p.2] 101)).trans ((Below.refl _ _).grown hgrow (by simp; omega) fun k hk => (World.ownsRow.lt HO.out k hk).1)
      have ho2 : Nr w2 w1.heap.size v' (R.take k ++ [p]) := by
        unfold Nr
        rw [nc_append, List.length_append]
        exact hown'
      have hall2 : ∀ x ∈ R.take (k + 1), nless x.1 s = true := fun x hx => by
        rw [HTS.out] at hx
        rcases List.mem_append.1 hx with hx | hx
        · exact HALL.out x hx
        · simp at hx; subst hx; exact hps
      have HA2 := hide2 hall2
      clear hown' hgrow HO c0 c1 hall2 HALL
      go_frame
      go_wp2
      go_roundw
      case rel => exact ⟨k + 1, by omega, by go_num, HA2.out, by rw [HTS.out]; exact ho2, hB2⟩
      case measure => simp [intOf]; omega
    · have hstop : ∀ x, R[k]? = some x → nless x.1 s = false := fun x hx => by
        cases e : nless x.1 s with
        | false => rfl
        | true => exact absurd ⟨x, hx, e⟩ hgo
      obtain ⟨e1, e2⟩ := while_at (fun p : ByteArray × Int => nless p.1 s) R k hall hstop
      have hfin : nwith l s at0 = R.take k ++ [(s, at0)] ++ R.drop k := by rw [HWD.out, e1, e2]
      have HFIN := hide2 hfin
      have HO := hide2 hown
      have hfrom := HR.out.from k hk
      clear e1 e2 hfin hall hown hgo HWD
      have hfr2 : ∀ ad : Addr, (∀ j x, (nc (R.drop k))[j]? = some x → w1.cell? (ad.add j) = some x) → True := fun _ _ => trivial
      by_cases hkl : k < R.length
      · obtain ⟨p, hp⟩ : ∃ p, R[k]? = some p := ⟨R[k], List.getElem?_eq_getElem hkl⟩
        obtain ⟨g, cap', e, hg, hgl, hcell⟩ := HROW.out (by omega)
        cases e
        obtain ⟨q0, q1⟩ := hcell k p hp
        have c0 : wr.cell? ⟨g, k * 2, none⟩ = some (.string p.1) := (hB.cell (p := ⟨g, k * 2, none⟩) hgl).trans q0
        have t1 : Op.bytesLess p.1.toList s.toList = false := hstop p hp
        have hc2 : (k : Int) < (R.length : Int) := by omega
        have t3 : decide ((k : Int) < (R.length : Int)) = true := by simpa using hkl
        have t4 : decide (k < R.length) = true := by simpa using hkl
        have HFROM := hide2 hfrom
        clear hcell q0 q1 hstop hfrom hfr2
        go_wp2_with (first
          | (at_builtin; refine Hid.out ?_)
          | go_in)
        refine hide2 ?_
        refine wpList_append_own _ rfl _ _ 63 rfl w1.heap.size 101 i0 (.agg #[.string .empty, .int .i64 0]) 2 24 Try.underlying63 hi hz0 hz1 hz2 rfl (by decide) u8 _ _ rfl (World.ownsRow.alloc HO.out _) ⟨wr.heap.size, 0, none⟩ 1 1 [.string s, .int .i64 at0] rfl rfl (cell_two_new _ _ _ _) (by intro u hu; simp at hu; rcases hu with rfl | rfl <;> rfl) (by unfold maxLen; omega) (by omega) (by simp; omega) ?_
        intro v' w2 hown' hgrow _
        have hB2 : Below w1.heap.size w1 w2 := (hB.alloc hsz (.cells #[.string s, .int .i64 at0] 101)).trans ((Below.refl _ _).grown hgrow (by simp; omega) fun k hk => (World.ownsRow.lt HO.out k hk).1)
        have ho2 : Nr w2 w1.heap.size v' (R.take k ++ [(s, at0)]) := by
          unfold Nr
          rw [nc_append, List.length_append]
          exact hown'
        have hs2 := hB2.size
        have HO2 := hide2 ho2
        have hdl : (nc (R.drop k)).length = (R.length - k) * 2 := by rw [nc_len, List.length_drop]
        clear hown' hgrow HO ho2
        go_frame
        rcases HFROM.out with ⟨hv, hR, hsl⟩ | ⟨ag, ao2, c, hadl, hsl, hcells⟩
        · exact absurd hkl (by rw [hR]; simp)
        · have hcells2 : ∀ j x, (nc (R.drop k))[j]? = some x → w2.cell? ((⟨ag, ao2, none⟩ : Addr).add j) = some x := fun j x hx => by
            rw [addr_add]
            exact (hB2.cell (p := ⟨ag, ao2 + j, none⟩) hadl).trans (hcells j x hx)
          have HC2 := hide2 hcells2
          clear HFROM hcells hcells2
          go_wp2_with (first
            | (at_builtin; refine Hid.out ?_)
            | go_in)
          refine hide2 ?_
          refine wpList_append_own _ rfl _ _ 63 rfl w1.heap.size 101 i0 (.agg #[.string .empty, .int .i64 0]) 2 24 Try.underlying63 hi hz0 hz1 hz2 rfl (by decide) v' _ _ rfl HO2.out ⟨ag, ao2, none⟩ (R.length - k) c (nc (R.drop k)) rfl hdl HC2.out (fun u hu => nc_one _ u hu) (by simp; unfold maxLen; omega) (by simp; omega) hs2 ?_
          intro v'' w3 hown3 hgrow3 _
          have hB3 : Below w1.heap.size w1 w3 := hB2.trans ((Below.refl _ _).grown hgrow3 hs2 fun k hk => (World.ownsRow.lt HO2.out k hk).1)
          have ho3 : Nr w3 w.heap.size v'' (nwith l s at0) := by
            rw [HFIN.out]
            refine Go.Joins.ownsRow_le (base := w1.heap.size) ?_ hs1
            have e9 : (R.take k ++ [(s, at0)] ++ R.drop k).length = (R.take k ++ [(s, at0)]).length + (R.length - k) := by rw [List.length_append, List.length_drop]
            rw [nc_append (R.take k ++ [(s, at0)]), e9]
            exact hown3
          have HO3 := hide2 ho3
          have HBB : Hid (Below w.heap.size w w3) := hide2 (hB1.trans (hB3.mono hs1))
          clear hsl hown3 hgrow3 ho3 HC2 HO2 HFIN
          go_frame
          go_wp2
          go_ret
          exact ⟨_, rfl, HO3.out, HBB.out⟩
      · have t3 : decide ((k : Int) < (R.length : Int)) = false := by simpa using hkl
        have t4 : decide (k < R.length) = false := by simpa using hkl
        have HFROM := hide2 hfrom
        clear hstop hfrom hfr2
        go_wp2_with (first
          | (at_builtin; refine Hid.out ?_)
          | go_in)
        refine hide2 ?_
        refine wpList_append_own _ rfl _ _ 63 rfl w1.heap.size 101 i0 (.agg #[.string .empty, .int .i64 0]) 2 24 Try.underlying63 hi hz0 hz1 hz2 rfl (by decide) u8 _ _ rfl (World.ownsRow.alloc HO.out _) ⟨wr.heap.size, 0, none⟩ 1 1 [.string s, .int .i64 at0] rfl rfl (cell_two_new _ _ _ _) (by intro u hu; simp at hu; rcases hu with rfl | rfl <;> rfl) (by unfold maxLen; omega) (by omega) (by simp; omega) ?_
        intro v' w2 hown' hgrow _
        have hB2 : Below w1.heap.size w1 w2 := (hB.alloc hsz (.cells #[.string s, .int .i64 at0] 101)).trans ((Below.refl _ _).grown hgrow (by simp; omega) fun k hk => (World.ownsRow.lt HO.out k hk).1)
        have ho2 : Nr w2 w1.heap.size v' (R.take k ++ [(s, at0)]) := by
          unfold Nr
          rw [nc_append, List.length_append]
          exact hown'
        have hs2 := hB2.size
        have HO2 := hide2 ho2
        have hdl : (nc (R.drop k)).length = (R.length - k) * 2 := by rw [nc_len, List.length_drop]
        clear hown' hgrow HO ho2
        go_frame
        rcases HFROM.out with ⟨hv, hR, hsl⟩ | ⟨ag, ao2, c, hadl, hsl, hcells⟩
        · have HRn := hide2 hR
          clear HFROM hR hv
          go_wp2_with (first
            | (at_builtin; refine Hid.out ?_)
            | go_in)
          refine hide2 ?_
          refine wpList_append_own_none rfl _ _ 63 rfl w1.heap.size 101 i0 2 Try.underlying63 hi v' _ _ rfl HO2.out rfl ?_
          have hfin : nwith l s at0 = R.take k ++ [(s, at0)] := by rw [HFIN.out, HRn.out]; simp
          have HF := hide2 hfin
          have HBB : Hid (Below w.heap.size w w2) := hide2 (hB1.trans (hB2.mono hs1))
          clear hsl hfin HFIN
          go_frame
          go_wp2
          go_ret
          exact ⟨_, rfl, by rw [HF.out]; exact Go.Joins.ownsRow_le HO2.out hs1, HBB.out⟩
        · have hcells2 : ∀ j x, (nc (R.drop k))[j]? = some x → w2.cell? ((⟨ag, ao2, none⟩ : Addr).add j) = some x := fun j x hx => by
            rw [addr_add]
            exact (hB2.cell (p := ⟨ag, ao2 + j, none⟩) hadl).trans (hcells j x hx)
          have HC2 := hide2 hcells2
          clear HFROM hcells hcells2
          go_wp2_with (first
            | (at_builtin; refine Hid.out ?_)
            | go_in)
          refine hide2 ?_
          refine wpList_append_own _ rfl _ _ 63 rfl w1.heap.size 101 i0 (.agg #[.string .empty, .int .i64 0]) 2 24 Try.underlying63 hi hz0 hz1 hz2 rfl (by decide) v' _ _ rfl HO2.out ⟨ag, ao2, none⟩ (R.length - k) c (nc (R.drop k)) rfl hdl HC2.out (fun u hu => nc_one _ u hu) (by simp; unfold maxLen; omega) (by simp; omega) hs2 ?_
          intro v'' w3 hown3 hgrow3 _
          have hB3 : Below w1.heap.size w1 w3 := hB2.trans ((Below.refl _ _).grown hgrow3 hs2 fun k hk => (World.ownsRow.lt HO2.out k hk).1)
          have ho3 : Nr w3 w.heap.size v'' (nwith l s at0) := by
            rw [HFIN.out]
            refine Go.Joins.ownsRow_le (base := w1.heap.size) ?_ hs1
            have e9 : (R.take k ++ [(s, at0)] ++ R.drop k).length = (R.take k ++ [(s, at0)]).length + (R.length - k) := by rw [List.length_append, List.length_drop]
            rw [nc_append (R.take k ++ [(s, at0)]), e9]
            exact hown3
          have HO3 := hide2 ho3
          have HBB : Hid (Below w.heap.size w w3) := hide2 (hB1.trans (hB3.mono hs1))
          clear hsl hown3 hgrow3 ho3 HC2 HO2 HFIN
          go_frame
          go_wp2
          go_ret
          exact ⟨_, rfl, HO3.out, HBB.out⟩
end Go.Proofs.Ytmggmnbialacbaa

/-
  The document's rows of names and the rows without memory; changed.
-/
set_option linter.unusedVariables false
set_option linter.unusedSimpArgs false
namespace Go.Proofs.Ytmggmnbialacbaa
open Go.RowKit Go.Maps

theorem before_less : ∀ x y : List UInt8, bytesBefore x y = Op.bytesLess x y
  | [], [] => rfl
  | [], _ :: _ => rfl
  | _ :: _, [] => rfl
  | a :: x, b :: y => by
    show (decide (a < b) || (a == b && bytesBefore x y)) = (decide (a < b) || (a == b && Op.bytesLess x y))
    rw [before_less x y]
theorem less_tri : ∀ x y : List UInt8, x ≠ y → Op.bytesLess x y = !Op.bytesLess y x
  | [], [], h => absurd rfl h
  | [], _ :: _, _ => rfl
  | _ :: _, [], _ => rfl
  | a :: x, b :: y, h => by
    show (decide (a < b) || (a == b && Op.bytesLess x y)) = !(decide (b < a) || (b == a && Op.bytesLess y x))
    by_cases e : a = b
    · subst e
      have hn : x ≠ y := fun e => h (by rw [e])
      have := less_tri x y hn
      simp [this]
    · have e2 : b ≠ a := fun e3 => e e3.symm
      have h1 : (a == b) = false := by simpa using e
      have h2 : (b == a) = false := by simpa using e2
      rw [h1, h2]
      simp only [Bool.false_and, Bool.or_false]
      by_cases hlt : a < b
      · have : ¬ b < a := fun h3 => absurd (UInt8.lt_trans hlt h3) (UInt8.lt_irrefl a)
        simp [hlt, this]
      · have : b < a := by
          rcases UInt8.lt_or_eq_of_le (UInt8.not_lt.1 hlt) with h3 | h3
          · exact h3
          · exact absurd h3.symm e
        simp [hlt, this]

/-- A key's text. -/
def ks : Lit → ByteArray
  | .string b => ⟨b.toArray⟩
  | _ => .empty
theorem ks_kl (s : ByteArray) : ks (kl s) = s := rfl
/-- All keys are texts. -/
def Txt (D : PDir) : Prop := ∀ p ∈ D, ∃ s, p.1 = kl s
/-- The document's row. -/
def nl (D : PDir) : NL := D.map fun p => (ks p.1, (p.2 : Int))

theorem same_kl (s t : ByteArray) : (kl s).sameKey (kl t) = decide (s = t) := by
  show (s.data.toList == t.data.toList) = _
  rw [← ByteArray.toList_eq, ← ByteArray.toList_eq]
  exact str_test s t
theorem before_kl (s t : ByteArray) : (kl s).before (kl t) = nless s t := by
  show bytesBefore s.data.toList t.data.toList = Op.bytesLess s.toList t.toList
  rw [before_less, ByteArray.toList_eq, ByteArray.toList_eq]

theorem nl_len (D : PDir) : (nl D).length = D.length := by simp [nl]
theorem Txt.del {D : PDir} (h : Txt D) (k : Lit) : Txt (pdel k D) := fun p hp => h p (mem_del hp)
theorem nl_find {D : PDir} (h : Txt D) (s : ByteArray) : nfind (nl D) s = match plook (kl s) D with | some i => (i : Int) | none => -1 := by
  induction D with
  | nil => rfl
  | cons p D ih =>
    obtain ⟨t, ht⟩ := h p (by simp)
    have ih := ih (fun q hq => h q (by simp [hq]))
    have e1 : p.1.sameKey (kl s) = decide (t = s) := by rw [ht, same_kl]
    have e2 : ks p.1 = t := by rw [ht, ks_kl]
    by_cases e : t = s
    · unfold nfind plook
      simp [nl, e1, e2, e]
    · have a1 : nfind (nl (p :: D)) s = nfind (nl D) s := by
        unfold nfind
        simp [nl, e2, e]
      have a2 : plook (kl s) (p :: D) = plook (kl s) D := by
        unfold plook
        simp [e1, e]
      rw [a1, a2, ih]
theorem nl_without {D : PDir} (h : Txt D) (s : ByteArray) : nwithout (nl D) s = nl (pdel (kl s) D) := by
  unfold nwithout nl pdel
  rw [List.filter_map]
  congr 1
  apply List.filter_congr
  intro p hp
  obtain ⟨t, ht⟩ := h p hp
  show (!decide (ks p.1 = s)) = !p.1.sameKey (kl s)
  rw [ht, same_kl, ks_kl]
theorem nl_ins {s : ByteArray} {i : Nat} : ∀ {D : PDir}, Txt D → (∀ p ∈ D, p.1 ≠ kl s) → (nl D).takeWhile (fun p => nless p.1 s) ++ [(s, (i : Int))] ++ (nl D).dropWhile (fun p => nless p.1 s) = nl (pins (kl s) i D)
  | [], _, _ => rfl
  | p :: D, h, hn => by
    obtain ⟨t, ht⟩ := h p (by simp)
    have ih := nl_ins (s := s) (i := i) (D := D) (fun q hq => h q (by simp [hq])) (fun q hq => hn q (by simp [hq]))
    have hts : t ≠ s := fun e => hn p (by simp) (by rw [ht, e])
    have e2 : ks p.1 = t := by rw [ht, ks_kl]
    have e3 : (kl s).before p.1 = !nless t s := by
      rw [ht, before_kl]
      unfold nless
      exact less_tri _ _ (fun e => hts (by rw [ByteArray.toList_eq, ByteArray.toList_eq] at e; exact (ByteArray.ext (Array.toList_inj.1 e)).symm))
    unfold pins
    cases e : nless t s with
    | true =>
      rw [if_neg (by rw [e3, e]; decide)]
      have a1 : nl (p :: D) = (t, (p.2 : Int)) :: nl D := by simp [nl, e2]
      have a2 : nl (p :: pins (kl s) i D) = (t, (p.2 : Int)) :: nl (pins (kl s) i D) := by simp [nl, e2]
      rw [a1, a2, ← ih]
      simp [List.takeWhile, List.dropWhile, e]
    | false =>
      rw [if_pos (by rw [e3, e]; rfl)]
      have a1 : nl (p :: D) = (t, (p.2 : Int)) :: nl D := by simp [nl, e2]
      have a2 : nl ((kl s, i) :: p :: D) = (s, (i : Int)) :: (t, (p.2 : Int)) :: nl D := by simp [nl, e2, ks_kl]
      rw [a1, a2]
      simp [List.takeWhile, List.dropWhile, e]
theorem nl_with {D : PDir} (h : Txt D) (s : ByteArray) (i : Nat) : nwith (nl D) s (i : Int) = nl (pput (kl s) i D) := by
  unfold nwith
  rw [nl_without h]
  exact nl_ins (h.del _) (fun p hp e => by
    have := (List.mem_filter.1 hp).2
    rw [e, same_kl] at this
    simp at this)

theorem emp_no {s : ByteArray} (h : s ≠ .empty) : (s.toList == ByteArray.empty.toList) = false ∧ (s.toList == []) = false ∧ ¬ s.toList = [] ∧ s.toList.isEmpty = false ∧ (s.data.toList == []) = false := by
  have h1 : ¬ s.toList = [] := fun e => h (by
    rw [ByteArray.toList_eq] at e
    exact ByteArray.ext (Array.toList_inj.1 e))
  refine ⟨?_, by simpa using h1, h1, by simpa using h1, ?_⟩
  · rw [str_test]; simpa using h
  · rw [ByteArray.toList_eq] at h1; simpa using h1
/-- A change, as the document writes it. -/
def chV : PC → Value
  | .mk s i => .agg #[.string .empty, .string s, .int .i64 (i : Int)]
  | .del s => .agg #[.string s, .string .empty, .int .i64 0]
  | .ren s t => .agg #[.string s, .string t, .int .i64 0]
def chC : PC → List Value
  | .mk s i => [.string .empty, .string s, .int .i64 (i : Int)]
  | .del s => [.string s, .string .empty, .int .i64 0]
  | .ren s t => [.string s, .string t, .int .i64 0]

set_option maxRecDepth 100000 in
set_option maxHeartbeats 2000000 in
theorem changed_mk {w : World} {B : Nat} {v : Value} {D : PDir} (h : Nr w B v (nl D)) (hD : Txt D) (hl : D.length ≤ 100000) (s : ByteArray) (i : Nat) (hs : s ≠ .empty) :
    Calls Try.prog 62 #[v, chV (.mk s i)] w fun e w' => ∃ v', e = .returned v' ∧ Nr w' w.heap.size v' (nl ((PC.mk s i).run D)) ∧ Below w.heap.size w w' := by
  have hb : Below w.heap.size w (w.alloc (.cells #[.string .empty, .string s, .int .i64 (i : Int)] 98)) := (Below.refl _ _).alloc (Nat.le_refl _) _
  have h1 : Nr (w.alloc (.cells #[.string .empty, .string s, .int .i64 (i : Int)] 98)) B v (nl D) := World.ownsRow.alloc h _
  have hw := with_ref h1 (by rw [nl_len]; exact hl) s (i : Int)
  rw [nl_with hD] at hw
  have HW := hide2 hw
  have HB := hide2 hb
  clear hw h1 h hb
  unfold chV
  go_enter Try.func62, Try.ntmps62
  go_wp2_with fail
  refine HW.out.mono ?_
  rintro e w2 ⟨v', rfl, hn, hb2⟩
  clear HW
  go_wp2
  go_ret
  exact ⟨_, rfl, Go.Joins.ownsRow_le hn (by simp), HB.out.trans (hb2.mono (by simp))⟩

set_option maxRecDepth 100000 in
set_option maxHeartbeats 2000000 in
theorem changed_del {w : World} {B : Nat} {v : Value} {D : PDir} (h : Nr w B v (nl D)) (hD : Txt D) (hl : D.length ≤ 100000) (s : ByteArray) (hs : s ≠ .empty) :
    Calls Try.prog 62 #[v, chV (.del s)] w fun e w' => ∃ v', e = .returned v' ∧ Nr w' w.heap.size v' (nl ((PC.del s).run D)) ∧ Below w.heap.size w w' := by
  have hb : Below w.heap.size w (w.alloc (.cells #[.string s, .string .empty, .int .i64 0] 98)) := (Below.refl _ _).alloc (Nat.le_refl _) _
  have h1 : Nr (w.alloc (.cells #[.string s, .string .empty, .int .i64 0] 98)) B v (nl D) := World.ownsRow.alloc h _
  have hw := without_ref h1 (by rw [nl_len]; exact hl) s
  rw [nl_without hD] at hw
  have HW := hide2 hw
  have HB := hide2 hb
  have t0 := emp_no hs
  obtain ⟨t1, t1', t1'', t1''', t1q⟩ := t0
  clear hw h1 h hb
  unfold chV
  go_enter Try.func62, Try.ntmps62
  go_wp2_with fail
  refine HW.out.mono ?_
  rintro e w2 ⟨v', rfl, hn, hb2⟩
  clear HW
  go_wp2
  go_ret
  exact ⟨_, rfl, Go.Joins.ownsRow_le hn (by simp), HB.out.trans (hb2.mono (by simp))⟩

set_option maxRecDepth 100000 in
set_option maxHeartbeats 2000000 in
theorem changed_ren {w : World} {B : Nat} {v : Value} {D : PDir} (h : Nr w B v (nl D)) (hD : Txt D) (hl : D.length ≤ 100000) (s t : ByteArray) (hs : s ≠ .empty) (ht : t ≠ .empty) (i : Nat) (hi : plook (kl s) D = some i) :
    Calls Try.prog 62 #[v, chV (.ren s t)] w fun e w' => ∃ v', e = .returned v' ∧ Nr w' w.heap.size v' (nl ((PC.ren s t).run D)) ∧ Below w.heap.size w w' := by
  have er : (PC.ren s t).run D = pput (kl t) i (pdel (kl s) D) := by
    show (match plook (kl s) D with | some i => pput (kl t) i (pdel (kl s) D) | none => D) = _
    rw [hi]
  rw [er]
  have hb : Below w.heap.size w (w.alloc (.cells #[.string s, .string t, .int .i64 0] 98)) := (Below.refl _ _).alloc (Nat.le_refl _) _
  have h1 : Nr (w.alloc (.cells #[.string s, .string t, .int .i64 0] 98)) B v (nl D) := World.ownsRow.alloc h _
  have hf := find_ref h1 (by rw [nl_len]; exact hl) s
  rw [nl_find hD, hi] at hf
  have hq : ∀ q, Nr ((w.alloc (.cells #[.string s, .string t, .int .i64 0] 98)).drewN q) B v (nl D) := fun q => h1
  have hw : ∀ q, Calls Try.prog 71 #[v, .string s] ((w.alloc (.cells #[.string s, .string t, .int .i64 0] 98)).drewN q) fun e w' => ∃ v', e = .returned v' ∧ Nr w' (w.heap.size + 1) v' (nl (pdel (kl s) D)) ∧ Below (w.heap.size + 1) ((w.alloc (.cells #[.string s, .string t, .int .i64 0] 98)).drewN q) w' := fun q => by
    have := without_ref (hq q) (by rw [nl_len]; exact hl) s
    rw [nl_without hD] at this
    simpa using this
  have HW := hide2 hw
  have HF := hide2 hf
  have HB := hide2 hb
  have hDD := hD.del (kl s)
  have hdl : (nl (pdel (kl s) D)).length ≤ 100000 := by rw [nl_len]; exact Nat.le_trans (List.length_filter_le _ _) hl
  have t0 := emp_no hs
  obtain ⟨t1, t1', t1'', t1''', t1q⟩ := t0
  have t0 := emp_no ht
  obtain ⟨t2, t2', t2'', t2''', t2q⟩ := t0
  clear hw h1 h hb hf hq er
  unfold chV
  go_enter Try.func62, Try.ntmps62
  go_wp2_with fail
  refine HF.out.mono ?_
  rintro e w2 ⟨rfl, rfl⟩
  clear HF
  have hW1 : Calls Try.prog 71 #[v, .string s] (w.alloc (.cells #[.string s, .string t, .int .i64 0] 98)).drew fun e w' => ∃ v', e = .returned v' ∧ Nr w' (w.heap.size + 1) v' (nl (pdel (kl s) D)) ∧ Below (w.heap.size + 1) (w.alloc (.cells #[.string s, .string t, .int .i64 0] 98)).drew w' := HW.out 1
  have HW1 := hide2 hW1
  clear hW1 HW
  go_wp2
  go_region_with (first
    | (go_at_call 71; refine HW1.out.mono ?_; rintro e w2 ⟨v2, rfl, hn2, hb2⟩; have y1 : w2.cell? ⟨w.heap.size, 1, none⟩ = some (.string t) := (hb2.cell (p := ⟨w.heap.size, 1, none⟩) (Nat.lt_succ_self _)).trans (by go_simp); have s2 := hb2.size)
    | (go_at_call 70; refine (with_ref hn2 hdl t (i : Int)).mono ?_; rintro e w3 ⟨v3, rfl, hn3, hb3⟩))
  all_goals
    have hBa : Below w.heap.size w w2 := Below.trans (show Below w.heap.size w (w.alloc (.cells #[.string s, .string t, .int .i64 0] 98)).drew from ⟨HB.out.os, HB.out.tape, HB.out.output, HB.out.size, HB.out.block⟩) (hb2.mono (Nat.le_succ _))
    have hBb : Below w.heap.size w w3 := hBa.trans (hb3.mono hBa.size)
    have hn4 : Nr w3 w.heap.size v3 (nl (pput (kl t) i (pdel (kl s) D))) := by
      rw [nl_with hDD] at hn3
      exact Go.Joins.ownsRow_le hn3 hBa.size
    clear hn3 hn2 hb2 hb3 y1 HW1
    go_wp2
    go_ret
    exact ⟨_, rfl, hn4, hBb⟩

/-- A change that fits. -/
def PC.fits (D : PDir) : PC → Prop
  | .mk s _ => s ≠ .empty
  | .del s => s ≠ .empty
  | .ren s t => s ≠ .empty ∧ t ≠ .empty ∧ ∃ i, plook (kl s) D = some i
theorem changed_ref {w : World} {B : Nat} {v : Value} {D : PDir} (h : Nr w B v (nl D)) (hD : Txt D) (hl : D.length ≤ 100000) (c : PC) (hc : c.fits D) :
    Calls Try.prog 62 #[v, chV c] w fun e w' => ∃ v', e = .returned v' ∧ Nr w' w.heap.size v' (nl (c.run D)) ∧ Below w.heap.size w w' := by
  cases c with
  | mk s i => exact changed_mk h hD hl s i hc
  | del s => exact changed_del h hD hl s hc
  | ren s t =>
    obtain ⟨h1, h2, i, hi⟩ := hc
    exact changed_ren h hD hl s t h1 h2 i hi
end Go.Proofs.Ytmggmnbialacbaa

/-
  What holds of every disk without memory.
-/
set_option linter.unusedVariables false
set_option linter.unusedSimpArgs false
namespace Go.Proofs.Ytmggmnbialacbaa
open Go.RowKit Go.Maps

abbrev Rise (D : PDir) : Prop := D.Pairwise fun p q => p.1.before q.1 = true
structure Dgood (D : PDir) (n : Nat) : Prop where
  rise : Rise D
  len : D.length ≤ 64
  all : ∀ p ∈ D, (∃ s, p.1 = kl s ∧ isName s = true) ∧ p.2 < n
theorem Dgood.txt {D : PDir} {n : Nat} (h : Dgood D n) : Txt D := fun p hp => by
  obtain ⟨⟨s, e, _⟩, _⟩ := h.all p hp
  exact ⟨s, e⟩
theorem Dgood.more {D : PDir} {n m : Nat} (h : Dgood D n) (hm : n ≤ m) : Dgood D m := ⟨h.rise, h.len, fun p hp => ⟨(h.all p hp).1, Nat.lt_of_lt_of_le (h.all p hp).2 hm⟩⟩
theorem dgood_nil (n : Nat) : Dgood [] n := ⟨List.Pairwise.nil, Nat.zero_le _, fun p hp => by cases hp⟩

theorem kl_total {s t : ByteArray} (h : s ≠ t) (hb : (kl s).before (kl t) = false) : (kl t).before (kl s) = true := by
  rw [before_kl] at hb ⊢
  unfold nless at hb ⊢
  have := less_tri t.toList s.toList (fun e => h (by rw [ByteArray.toList_eq, ByteArray.toList_eq] at e; exact (ByteArray.ext (Array.toList_inj.1 e)).symm))
  rw [this, hb]
  rfl
theorem pins_rise {s : ByteArray} {i : Nat} : ∀ {D : PDir}, Rise D → Txt D → (∀ p ∈ D, p.1 ≠ kl s) → Rise (pins (kl s) i D)
  | [], _, _, _ => List.pairwise_singleton _ _
  | y :: r, h, ht, hn => by
    obtain ⟨h1, h2⟩ := List.pairwise_cons.1 h
    unfold pins
    by_cases e : (kl s).before y.1 = true
    · rw [if_pos e]
      refine List.pairwise_cons.2 ⟨fun p hp => ?_, h⟩
      rcases List.mem_cons.1 hp with rfl | hp
      · exact e
      · exact WideShapes.before_trans e (h1 p hp)
    · rw [if_neg e]
      refine List.pairwise_cons.2 ⟨fun p hp => ?_, pins_rise h2 (fun q hq => ht q (by simp [hq])) (fun q hq => hn q (by simp [hq]))⟩
      rcases mem_ins hp with rfl | hp
      · obtain ⟨t, e2⟩ := ht y (by simp)
        have hne : s ≠ t := fun e3 => hn y (by simp) (by rw [e2, e3])
        rw [e2] at e ⊢
        exact kl_total hne (by simpa using e)
      · exact h1 p hp
theorem pins_len (k : Lit) (i : Nat) : ∀ D : PDir, (pins k i D).length = D.length + 1
  | [] => rfl
  | y :: r => by
    unfold pins
    split
    · rfl
    · simp [pins_len k i r]
theorem pdel_le (k : Lit) (D : PDir) : (pdel k D).length ≤ D.length := List.length_filter_le _ _
theorem pdel_ne {s : ByteArray} {D : PDir} : ∀ p ∈ pdel (kl s) D, p.1 ≠ kl s := fun p hp e => by
  have := (List.mem_filter.1 hp).2
  rw [e, same_kl] at this
  simp at this
theorem pdel_lt {k : Lit} {D : PDir} {i : Nat} (h : plook k D = some i) : (pdel k D).length + 1 ≤ D.length := by
  obtain ⟨p, hp, _, hk⟩ := look_mem h
  have : (D.filter fun p => !p.1.sameKey k).length < D.length := List.length_filter_lt_length_iff_exists.2 ⟨p, hp, by simp [hk]⟩
  exact this
theorem Dgood.del {D : PDir} {n : Nat} (h : Dgood D n) (k : Lit) : Dgood (pdel k D) n :=
  ⟨h.rise.filter _, Nat.le_trans (pdel_le k D) h.len, fun p hp => h.all p (mem_del hp)⟩
theorem Dgood.put {D : PDir} {n : Nat} (h : Dgood D n) {s : ByteArray} (hs : isName s = true) {i : Nat} (hi : i < n) (hl : (pdel (kl s) D).length < 64) : Dgood (pput (kl s) i D) n := by
  have hd := h.del (kl s)
  refine ⟨pins_rise hd.rise hd.txt pdel_ne, ?_, fun p hp => ?_⟩
  · unfold pput
    rw [pins_len]
    omega
  · rcases mem_put hp with rfl | hp
    · exact ⟨⟨s, rfl, hs⟩, hi⟩
    · exact h.all p hp
theorem name_some {s : ByteArray} (h : isName s = true) : s ≠ .empty := fun e => by
  have := (isName_size h).1
  rw [e] at this
  exact absurd this (by decide)

def PD.dir (P : PD) (k : Nat) : PDir := pruns (P.log.take k) P.old
structure PD.inv (P : PD) : Prop where
  lo : 0 ≤ P.n
  hi : P.n ≤ 65536
  few : (P.log.length : Int) ≤ P.n
  filn : (P.fil.length : Int) ≤ 64 + P.n
  dir : ∀ k, k ≤ P.log.length → Dgood (P.dir k) P.fil.length
  fit : ∀ (k : Nat) (c : PC), P.log[k]? = some c → c.fits (P.dir k)
  fil : ∀ (i : Nat) (x : List Int × Nat), P.fil[i]? = some x → Byt x.1 ∧ x.2 ≤ x.1.length ∧ x.1.length ≤ 262144

section
variable {P : PD}
theorem PD.dir_now (P : PD) : P.dir P.log.length = P.now := by
  unfold PD.dir PD.now
  rw [List.take_length]
theorem PD.inv.now (h : P.inv) : Dgood P.now P.fil.length := by
  have := h.dir P.log.length (Nat.le_refl _)
  rwa [P.dir_now] at this
theorem inv_new : PD.new.inv := by
  refine ⟨by decide, by decide, by decide, by decide, fun k hk => ?_, (fun k c hc => by cases hc), (fun i x hx => by cases hx)⟩
  have : k = 0 := by simpa [PD.new] using hk
  subst this
  exact dgood_nil _
theorem PD.inv.change (h : P.inv) (hn : P.n < 65536) {c : PC} (hc : c.fits P.now) {pf : List (List Int × Nat)} (hl : P.fil.length ≤ pf.length) (hl2 : pf.length ≤ P.fil.length + 1) (hg : Dgood (c.run P.now) pf.length) (hf : ∀ (i : Nat) (x : List Int × Nat), pf[i]? = some x → Byt x.1 ∧ x.2 ≤ x.1.length ∧ x.1.length ≤ 262144) :
    PD.inv { P with log := P.log ++ [c], fil := pf, n := P.n + 1 } := by
  have h1 := h.lo
  have h2 := h.few
  have h3 := h.filn
  have hd : ∀ k, k ≤ P.log.length → PD.dir { P with log := P.log ++ [c], fil := pf, n := P.n + 1 } k = P.dir k := fun k hk => by
    show pruns ((P.log ++ [c]).take k) P.old = pruns (P.log.take k) P.old
    rw [List.take_append_of_le_length hk]
  refine ⟨by show 0 ≤ P.n + 1; omega, by show P.n + 1 ≤ 65536; omega, by show ((P.log ++ [c]).length : Int) ≤ P.n + 1; simp; omega, by show (pf.length : Int) ≤ 64 + (P.n + 1); omega, fun k hk => ?_, fun k c' hk => ?_, hf⟩
  · by_cases e : k ≤ P.log.length
    · rw [hd k e]
      exact (h.dir k e).more hl
    · have hk2 : k ≤ (P.log ++ [c]).length := hk
      have e2 : k = P.log.length + 1 := by simp at hk2; omega
      show Dgood (pruns ((P.log ++ [c]).take k) P.old) pf.length
      rw [List.take_of_length_le (by simp; omega), pruns_snoc]
      exact hg
  · have hk' : (P.log ++ [c])[k]? = some c' := hk
    by_cases e : k < P.log.length
    · rw [List.getElem?_append_left e] at hk'
      rw [hd k (by omega)]
      exact h.fit k c' hk'
    · have hlt := (List.getElem?_eq_some_iff.1 hk').1
      have e2 : k = P.log.length := by simp at hlt; omega
      subst e2
      rw [List.getElem?_append_right (Nat.le_refl _)] at hk'
      simp at hk'
      subst hk'
      rw [hd _ (Nat.le_refl _), P.dir_now]
      exact hc
theorem PD.inv.files (h : P.inv) (hn : P.n < 65536) {pf : List (List Int × Nat)} (hl : pf.length = P.fil.length) (hf : ∀ (i : Nat) (x : List Int × Nat), pf[i]? = some x → Byt x.1 ∧ x.2 ≤ x.1.length ∧ x.1.length ≤ 262144) : PD.inv { P with fil := pf, n := P.n + 1 } := by
  have h1 := h.lo
  have h2 := h.few
  have h3 := h.filn
  refine ⟨by show 0 ≤ P.n + 1; omega, by show P.n + 1 ≤ 65536; omega, by show (P.log.length : Int) ≤ P.n + 1; omega, by show (pf.length : Int) ≤ 64 + (P.n + 1); omega, fun k hk => ?_, h.fit, hf⟩
  show Dgood (P.dir k) pf.length
  rw [hl]
  exact h.dir k hk
theorem set_all {α : Type} {l : List α} {i : Nat} {y : α} {Q : α → Prop} (h : ∀ (j : Nat) (x : α), l[j]? = some x → Q x) (hy : Q y) : ∀ (j : Nat) (x : α), (l.set i y)[j]? = some x → Q x := fun j x hx => by
  rw [List.getElem?_set] at hx
  split at hx
  · split at hx
    · cases hx; exact hy
    · cases hx
  · exact h j x hx
theorem PD.inv.at (h : P.inv) {s : ByteArray} {i : Nat} (hi : plook (kl s) P.now = some i) : P.fil[i]? = some (P.at i) ∧ Byt (P.at i).1 ∧ (P.at i).2 ≤ (P.at i).1.length ∧ (P.at i).1.length ≤ 262144 := by
  obtain ⟨p, hp, rfl, _⟩ := look_mem hi
  have hl := (h.now.all p hp).2
  have e := List.getElem?_eq_getElem hl
  have e2 : P.at p.2 = P.fil[p.2] := at_eq e
  rw [e2]
  exact ⟨e, h.fil _ _ e⟩
theorem inv_app (h : P.inv) (s : ByteArray) {xs : List Int} (hx : Byt xs) : (P.app s xs).2.inv := by
  unfold PD.app
  cases hn : isName s with
  | false => exact h
  | true =>
    rw [if_neg (by decide)]
    cases e : plook (kl s) P.now with
    | none =>
      show PD.inv (if _ then (_, _) else (_, _)).2
      split
      · exact h
      · rename_i hc
        refine h.change (by omega) (c := .mk s P.fil.length) (name_some hn) (by simp) (by simp) ((h.now.more (by simp)).put hn (by simp) (by have := pdel_le (kl s) P.now; omega)) fun i x hi => ?_
        by_cases hl : i < P.fil.length
        · rw [List.getElem?_append_left hl] at hi
          exact h.fil i x hi
        · rw [List.getElem?_append_right (by omega)] at hi
          have hlt := (List.getElem?_eq_some_iff.1 hi).1
          have e2 : i - P.fil.length = 0 := by simp at hlt; omega
          rw [e2] at hi
          simp at hi
          subst hi
          exact ⟨hx, Nat.zero_le _, by show xs.length ≤ 262144; omega⟩
    | some i =>
      show PD.inv (if _ then (_, _) else (_, _)).2
      split
      · exact h
      · rename_i hc
        obtain ⟨h1, h2, h3, h4⟩ := h.at e
        refine h.files (by omega) (by simp) (set_all (Q := fun (x : List Int × Nat) => Byt x.1 ∧ x.2 ≤ x.1.length ∧ x.1.length ≤ 262144) h.fil ⟨h2.append hx, ?_, ?_⟩)
        · show (P.at i).2 ≤ ((P.at i).1 ++ xs).length
          rw [List.length_append]; omega
        · show ((P.at i).1 ++ xs).length ≤ 262144
          rw [List.length_append]; omega
theorem pcode_zero {n : Bool} {q : Option Nat} {ops : Int} (h : pcode n q ops = 0) : n = true ∧ (∃ i, q = some i) ∧ ops < 65536 := by
  unfold pcode at h
  cases n with
  | false => simp at h
  | true =>
    cases q with
    | none => simp at h
    | some i =>
      refine ⟨rfl, ⟨i, rfl⟩, ?_⟩
      by_cases e : 65536 ≤ ops
      · simp [e] at h
      · omega
theorem inv_sync (h : P.inv) (s : ByteArray) : (P.sync s).2.inv := by
  unfold PD.sync
  split
  · rename_i hz
    obtain ⟨hn, ⟨i, hi⟩, hop⟩ := pcode_zero hz
    rw [hi]
    obtain ⟨h1, h2, h3, h4⟩ := h.at hi
    exact h.files hop (by simp) (set_all (Q := fun (x : List Int × Nat) => Byt x.1 ∧ x.2 ≤ x.1.length ∧ x.1.length ≤ 262144) h.fil ⟨h2, Nat.le_refl _, h4⟩)
  · exact h
theorem inv_del (h : P.inv) (s : ByteArray) : (P.del s).2.inv := by
  unfold PD.del
  split
  · rename_i hz
    obtain ⟨hn, ⟨i, hi⟩, hop⟩ := pcode_zero hz
    exact h.change hop (c := .del s) (name_some hn) (Nat.le_refl _) (Nat.le_succ _) (h.now.del _) h.fil
  · exact h
theorem inv_ren (h : P.inv) (s t : ByteArray) : (P.ren s t).2.inv := by
  unfold PD.ren
  split
  · rename_i hz
    obtain ⟨hn, ⟨i, hi⟩, hop⟩ := pcode_zero hz
    have hs : isName s = true := by cases e : isName s <;> simp_all
    have ht : isName t = true := by cases e : isName t <;> simp_all
    refine h.change hop (c := .ren s t) ⟨name_some hs, name_some ht, i, hi⟩ (Nat.le_refl _) (Nat.le_succ _) ?_ h.fil
    have er : (PC.ren s t).run P.now = pput (kl t) i (pdel (kl s) P.now) := by
      show (match plook (kl s) P.now with | some i => pput (kl t) i (pdel (kl s) P.now) | none => P.now) = _
      rw [hi]
    rw [er]
    obtain ⟨p, hp, rfl, _⟩ := look_mem hi
    refine (h.now.del _).put ht (h.now.all p hp).2 ?_
    have h1 := pdel_le (kl t) (pdel (kl s) P.now)
    have h2 := pdel_lt hi
    have h3 := h.now.len
    omega
  · exact h
theorem inv_syncDir (h : P.inv) : P.syncDir.2.inv := by
  unfold PD.syncDir
  split
  · exact h
  · rename_i hc
    have h1 := h.lo
    have h3 := h.filn
    refine ⟨by show 0 ≤ P.n + 1; omega, by show P.n + 1 ≤ 65536; omega, by show ((0 : Nat) : Int) ≤ P.n + 1; omega, by show (P.fil.length : Int) ≤ 64 + (P.n + 1); omega, fun k hk => ?_, (fun k c hk => by cases hk), h.fil⟩
    have : k = 0 := by simpa using hk
    subst this
    exact h.now
end
end Go.Proofs.Ytmggmnbialacbaa

/-
  The document's own disk in memory: New, CutAt, may.
-/
set_option linter.unusedVariables false
set_option linter.unusedSimpArgs false
namespace Go.Proofs.Ytmggmnbialacbaa
open Go.RowKit Go.Maps

/-- Whose a block is. -/
inductive Ro where
  | out | dsk | fs | log | nam
  | fl (i : Nat)
  | byt (i : Nat)
/-- The disk's seven cells. -/
def Rk (w : World) (r : Nat) (vF vO vL vN : Value) (n cut : Int) (off : Bool) : Prop :=
  w.heap[r]? = some (.cells #[vF, vO, vL, vN, .int .i64 n, .int .i64 cut, .bool off] 66 (0, 0))
section
variable {w w' : World} {r : Nat} {vF vO vL vN : Value} {n cut : Int} {off : Bool}
theorem Rk.lt (h : Rk w r vF vO vL vN n cut off) : r < w.heap.size := (Array.getElem?_eq_some_iff.1 h).1
theorem Rk.cells (h : Rk w r vF vO vL vN n cut off) : w.cell? ⟨r, 0, none⟩ = some vF ∧ w.cell? ⟨r, 1, none⟩ = some vO ∧ w.cell? ⟨r, 2, none⟩ = some vL ∧ w.cell? ⟨r, 3, none⟩ = some vN ∧
    w.cell? ⟨r, 4, none⟩ = some (.int .i64 n) ∧ w.cell? ⟨r, 5, none⟩ = some (.int .i64 cut) ∧ w.cell? ⟨r, 6, none⟩ = some (.bool off) := by
  unfold Rk at h
  refine ⟨?_, ?_, ?_, ?_, ?_, ?_, ?_⟩ <;> (rw [Go.Joins.cell_of_block h]; rfl)
theorem Rk.free (h : Rk w r vF vO vL vN n cut off) (i : Nat) : w.frozen? ⟨r, i, none⟩ = false := Go.Joins.unfrozen_of_block h i
theorem Rk.same (h : Rk w r vF vO vL vN n cut off) (e : w'.heap[r]? = w.heap[r]?) : Rk w' r vF vO vL vN n cut off := e.trans h
theorem Rk.set (h : Rk w r vF vO vL vN n cut off) :
    (∀ v, Rk (w.setCell ⟨r, 0, none⟩ v) r v vO vL vN n cut off) ∧ (∀ v, Rk (w.setCell ⟨r, 1, none⟩ v) r vF v vL vN n cut off) ∧
    (∀ v, Rk (w.setCell ⟨r, 2, none⟩ v) r vF vO v vN n cut off) ∧ (∀ v, Rk (w.setCell ⟨r, 3, none⟩ v) r vF vO vL v n cut off) ∧
    (∀ x, Rk (w.setCell ⟨r, 4, none⟩ (.int .i64 x)) r vF vO vL vN x cut off) ∧ (∀ x, Rk (w.setCell ⟨r, 5, none⟩ (.int .i64 x)) r vF vO vL vN n x off) ∧
    (∀ x, Rk (w.setCell ⟨r, 6, none⟩ (.bool x)) r vF vO vL vN n cut x) := by
  unfold Rk at *
  refine ⟨fun v => ?_, fun v => ?_, fun v => ?_, fun v => ?_, fun v => ?_, fun v => ?_, fun v => ?_⟩ <;> (rw [Go.Joins.block_setCell h]; rfl)

set_option maxHeartbeats 1000000 in
theorem ref_new (w : World) : Calls Try.prog 10 #[] w fun e w' => e = .returned (.pointer (some ⟨w.heap.size, 0, none⟩)) ∧ Rk w' w.heap.size (.slice none 0 0) (.slice none 0 0) (.slice none 0 0) (.slice none 0 0) 0 (-1) false ∧ w'.heap.size = w.heap.size + 1 ∧ Below w.heap.size w w' := by
  go_enter Try.func10, Try.ntmps10
  go_wp2
  go_ret
  exact ⟨rfl, heap_alloc_new _ _, by simp, (Below.refl _ _).alloc (Nat.le_refl _) _⟩
set_option maxHeartbeats 1000000 in
theorem ref_cutAt (h : Rk w r vF vO vL vN n cut off) (x : Int) :
    Calls Try.prog 36 #[.pointer (some ⟨r, 0, none⟩), .int .i64 x] w fun e w' => e = .returned (.tuple #[]) ∧ Rk w' r vF vO vL vN n x false ∧ Fr (fun j => j = r) w w' := by
  obtain ⟨c0, c1, c2, c3, c4, c5, c6⟩ := h.cells
  have f5 := h.free 5
  have f6 := h.free 6
  have HD := hide2 h
  clear h
  go_enter Try.func36, Try.ntmps36
  go_wp2
  go_end0
  exact ⟨rfl, (HD.out.set.2.2.2.2.2.1 x).set.2.2.2.2.2.2 false, Fr.setCell (p := ⟨r, 6, none⟩) (Fr.setCell (p := ⟨r, 5, none⟩) (Fr.refl (fun j => j = r) w) (.inl rfl) _) (.inl rfl) _⟩

/-- Is the power gone, once it has been asked? -/
def offed (n cut : Int) (off : Bool) : Bool := off || (decide (0 ≤ cut) && decide (cut ≤ n))
set_option maxHeartbeats 2000000 in
theorem ref_may (h : Rk w r vF vO vL vN n cut off) :
    Calls Try.prog 57 #[.pointer (some ⟨r, 0, none⟩)] w fun e w' => e = .returned (.bool (!offed n cut off)) ∧ Rk w' r vF vO vL vN n cut (offed n cut off) ∧ Fr (fun j => j = r) w w' ∧ w'.heap.size = w.heap.size := by
  obtain ⟨c0, c1, c2, c3, c4, c5, c6⟩ := h.cells
  have f6 := h.free 6
  have HD := hide2 h
  clear h
  by_cases h0 : 0 ≤ cut
  · have d0 : decide (0 ≤ cut) = true := by simpa using h0
    by_cases h1 : cut ≤ n
    · have d1 : decide (cut ≤ n) = true := by simpa using h1
      have e : offed n cut off = true := by simp [offed, d0, d1]
      rw [e]
      go_enter Try.func57, Try.ntmps57
      go_wp2
      go_quiet (fail)
      go_wp2
      go_ret
      exact ⟨rfl, (HD.out.same (w' := w.drewN _) rfl).set.2.2.2.2.2.2 true, Fr.setCell (p := ⟨r, 6, none⟩) ((Fr.refl (fun j => j = r) w).drewN _) (.inl rfl) _, by simp⟩
    · have d1 : decide (cut ≤ n) = false := by simpa using h1
      have e : offed n cut off = off := by simp [offed, d0, d1]
      rw [e]
      go_enter Try.func57, Try.ntmps57
      go_wp2
      go_quiet (fail)
      go_wp2
      go_ret
      exact ⟨rfl, HD.out.same rfl, (Fr.refl _ w).drewN _, rfl⟩
  · have d0 : decide (0 ≤ cut) = false := by simpa using h0
    have e : offed n cut off = off := by simp [offed, d0]
    rw [e]
    go_enter Try.func57, Try.ntmps57
    go_wp2
    go_quiet (fail)
    go_wp2
    go_ret
    exact ⟨rfl, HD.out.same rfl, (Fr.refl _ w).drewN _, rfl⟩
end
end Go.Proofs.Ytmggmnbialacbaa

/-
  The document's own disk: what it has, and whose; ready.
-/
set_option linter.unusedVariables false
set_option linter.unusedSimpArgs false
namespace Go.Proofs.Ytmggmnbialacbaa
open Go.RowKit Go.Maps

/-- A file. -/
def RFl (w : World) (f : Nat) (v : Value) (sy : Nat) : Prop := w.heap[f]? = some (.cells #[v, .int .i64 (sy : Int)] 94 (0, 0))
theorem RFl.lt {w : World} {f sy : Nat} {v : Value} (h : RFl w f v sy) : f < w.heap.size := (Array.getElem?_eq_some_iff.1 h).1
theorem RFl.cells {w : World} {f sy : Nat} {v : Value} (h : RFl w f v sy) : w.cell? ⟨f, 0, none⟩ = some v ∧ w.cell? ⟨f, 1, none⟩ = some (.int .i64 (sy : Int)) := by
  unfold RFl at h
  refine ⟨?_, ?_⟩ <;> (rw [Go.Joins.cell_of_block h]; rfl)
theorem RFl.free {w : World} {f sy : Nat} {v : Value} (h : RFl w f v sy) (i : Nat) : w.frozen? ⟨f, i, none⟩ = false := Go.Joins.unfrozen_of_block h i

theorem row_any {w w' : World} {B size n : Nat} {e : TypeId} {v : Value} {xs : List Value} (h : w.ownsRow B e size v n xs) (hs : ∀ j, v.ownBlock = some j → w'.heap[j]? = w.heap[j]?) : w'.ownsRow B e size v n xs := by
  refine ⟨h.1, ?_⟩
  rcases h.2 with h0 | ⟨g, cap, cur, rfl, hb, hh, hn⟩
  · exact .inl h0
  · exact .inr ⟨g, cap, cur, rfl, hb, (hs g rfl).trans hh, hn⟩
def rpt (f : Nat) : Value := .pointer (some ⟨f, 0, none⟩)
/-- The document's disk in memory. -/
structure Wd (w : World) (r : Nat) (κ : Nat → Ro) (vF vO vL vN : Value) (φ : Nat → Nat) (β : Nat → Value) (P : PD) (cut : Int) (off : Bool) : Prop where
  rk : Rk w r vF vO vL vN P.n cut off
  kr : κ r = .dsk
  rF : w.ownsRow 0 95 1 vF P.fil.length ((List.range P.fil.length).map fun i => rpt (φ i))
  kF : ∀ g, vF.ownBlock = some g → κ g = .fs
  rO : Nr w 0 vO (nl P.old)
  kO : ∀ g, vO.ownBlock = some g → κ g = .nam
  rL : w.ownsRow 0 98 3 vL P.log.length (P.log.flatMap chC)
  kL : ∀ g, vL.ownBlock = some g → κ g = .log
  rN : Nr w 0 vN (nl P.now)
  kN : ∀ g, vN.ownBlock = some g → κ g = .nam
  fil : ∀ (i : Nat) (x : List Int × Nat), P.fil[i]? = some x → RFl w (φ i) (β i) x.2 ∧ κ (φ i) = .fl i ∧ Own w 0 (β i) x.1 ∧ ∀ g, (β i).ownBlock = some g → κ g = .byt i
  frs : ∀ g, κ g ≠ .out → g < w.heap.size
def RD (w : World) (r : Nat) (κ : Nat → Ro) (P : PD) (cut : Int) (off : Bool) : Prop := ∃ vF vO vL vN φ β, Wd w r κ vF vO vL vN φ β P cut off

/-- All is as it was but what is of these kinds. -/
def Sm (κ : Nat → Ro) (X : Ro → Prop) (w w' : World) : Prop := w.heap.size ≤ w'.heap.size ∧ ∀ j, j < w.heap.size → ¬ X (κ j) → w'.heap[j]? = w.heap[j]?
section
variable {w w' : World} {r : Nat} {κ : Nat → Ro} {vF vO vL vN : Value} {φ : Nat → Nat} {β : Nat → Value} {P : PD} {cut : Int} {off : Bool} {X : Ro → Prop}
theorem Sm.of_blk (h : Wd w r κ vF vO vL vN φ β P cut off) (F : Fr (fun j => j = r) w w') : Sm κ (fun x => x = .dsk) w w' := ⟨F.size, fun j hj hn => F.block j hj fun e => hn (by rw [e]; exact h.kr)⟩
theorem Wd.oF (h : Wd w r κ vF vO vL vN φ β P cut off) (s : Sm κ X w w') (hx : ¬ X .fs) : w'.ownsRow 0 95 1 vF P.fil.length ((List.range P.fil.length).map fun i => rpt (φ i)) :=
  row_same h.rF fun j e => s.2 j (h.rF.lt j e).2 (by rw [h.kF j e]; exact hx)
theorem Wd.oO (h : Wd w r κ vF vO vL vN φ β P cut off) (s : Sm κ X w w') (hx : ¬ X .nam) : Nr w' 0 vO (nl P.old) :=
  row_any h.rO fun j e => s.2 j (World.ownsRow.lt h.rO j e).2 (by rw [h.kO j e]; exact hx)
theorem Wd.oN (h : Wd w r κ vF vO vL vN φ β P cut off) (s : Sm κ X w w') (hx : ¬ X .nam) : Nr w' 0 vN (nl P.now) :=
  row_any h.rN fun j e => s.2 j (World.ownsRow.lt h.rN j e).2 (by rw [h.kN j e]; exact hx)
theorem Wd.oL (h : Wd w r κ vF vO vL vN φ β P cut off) (s : Sm κ X w w') (hx : ¬ X .log) : w'.ownsRow 0 98 3 vL P.log.length (P.log.flatMap chC) :=
  row_any h.rL fun j e => s.2 j (h.rL.lt j e).2 (by rw [h.kL j e]; exact hx)
theorem Wd.oFil (h : Wd w r κ vF vO vL vN φ β P cut off) (s : Sm κ X w w') (i : Nat) (x : List Int × Nat) (hi : P.fil[i]? = some x) (hx : ¬ X (.fl i)) (hy : ¬ X (.byt i)) : RFl w' (φ i) (β i) x.2 ∧ κ (φ i) = .fl i ∧ Own w' 0 (β i) x.1 ∧ ∀ g, (β i).ownBlock = some g → κ g = .byt i := by
  obtain ⟨h1, h2, h3, h4⟩ := h.fil i x hi
  exact ⟨(s.2 _ h1.lt (by rw [h2]; exact hx)).trans h1, h2, row_same h3 fun j e => s.2 j (World.ownsRow.lt h3 j e).2 (by rw [h4 j e]; exact hy), h4⟩
theorem Wd.oK (h : Wd w r κ vF vO vL vN φ β P cut off) (s : Sm κ X w w') (hx : ¬ X .dsk) : Rk w' r vF vO vL vN P.n cut off := h.rk.same (s.2 r h.rk.lt (by rw [h.kr]; exact hx))
/-- The disk's own block alone is another one. -/
theorem Wd.blk (h : Wd w r κ vF vO vL vN φ β P cut off) (F : Fr (fun j => j = r) w w') {n' cut' : Int} {off' : Bool} (hk : Rk w' r vF vO vL vN n' cut' off') : Wd w' r κ vF vO vL vN φ β { P with n := n' } cut' off' := by
  have s := Sm.of_blk h F
  exact ⟨hk, h.kr, h.oF s (by simp), h.kF, h.oO s (by simp), h.kO, h.oL s (by simp), h.kL, h.oN s (by simp), h.kN, fun i x hi => h.oFil s i x hi (by simp) (by simp), fun g hg => Nat.lt_of_lt_of_le (h.frs g hg) s.1⟩
theorem Wd.keep (h : Wd w r κ vF vO vL vN φ β P cut off) (s : Sm κ (fun x => x = .out) w w') : Wd w' r κ vF vO vL vN φ β P cut off :=
  ⟨h.oK s (by simp), h.kr, h.oF s (by simp), h.kF, h.oO s (by simp), h.kO, h.oL s (by simp), h.kL, h.oN s (by simp), h.kN, fun i x hi => h.oFil s i x hi (by simp) (by simp), fun g hg => Nat.lt_of_lt_of_le (h.frs g hg) s.1⟩
theorem RD.keep (h : RD w r κ P cut off) (s : Sm κ (fun x => x = .out) w w') : RD w' r κ P cut off := by
  obtain ⟨vF, vO, vL, vN, φ, β, h⟩ := h
  exact ⟨vF, vO, vL, vN, φ, β, h.keep s⟩
end

/-- What is answered ahead of Sync, Rename, Delete. -/
def rcode (o n : Bool) (q : Option Nat) (ops : Int) : Int := if o = true then 24 else pcode n q ops
set_option maxHeartbeats 2000000 in
set_option maxRecDepth 100000 in
theorem ref_ready {w : World} {r : Nat} {vF vO vL vN : Value} {n cut : Int} {off : Bool} {D : PDir} (h : Rk w r vF vO vL vN n cut off) (hN : Nr w 0 vN (nl D)) (hne : ∀ g, vN.ownBlock = some g → g ≠ r) (hD : Txt D) (hl : D.length ≤ 100000) (s t : ByteArray) (hs : s.size ≤ maxLen) (ht : t.size ≤ maxLen) :
    Calls Try.prog 60 #[.pointer (some ⟨r, 0, none⟩), .string s, .string t] w fun e w' => e = .returned (.int .i64 (rcode (offed n cut off) (isName t && isName s) (plook (kl s) D) n)) ∧ Rk w' r vF vO vL vN n cut (offed n cut off) ∧ Fr (fun j => j = r) w w' ∧ w'.heap.size = w.heap.size := by
  have hi1 := refIsName_any s w hs
  have hi2 := refIsName_any t w ht
  have hm := ref_may h
  have HN := hide2 hN
  clear h hN
  go_enter Try.func60, Try.ntmps60
  go_wp2_with fail
  refine hi1.mono ?_
  rintro e w1 ⟨rfl, rfl⟩
  go_wp2_with fail
  refine hi2.mono ?_
  rintro e w1 ⟨rfl, rfl⟩
  go_wp2_with fail
  refine hm.mono ?_
  rintro e w1 ⟨rfl, hk, hF, hz⟩
  clear hm hi1 hi2
  cases ho : offed n cut off with
  | true =>
    rw [ho] at hk
    go_wp2
    go_ret
    rw [ho]
    exact ⟨rfl, hk, hF, hz⟩
  | false =>
    rw [ho] at hk
    cases h1 : isName s with
    | false =>
      go_wp2
      go_ret
      rw [ho, h1]
      exact ⟨by cases isName t <;> rfl, hk, hF, hz⟩
    | true =>
      cases h2 : isName t with
      | false =>
        go_wp2
        go_ret
        rw [ho, h1, h2]
        exact ⟨rfl, hk, hF, hz⟩
      | true =>
        have hN1 : Nr w1 0 vN (nl D) := row_any HN.out fun j e => hF.block j (World.ownsRow.lt HN.out j e).2 (hne j e)
        have hf := find_ref hN1 (by rw [nl_len]; exact hl) s
        rw [nl_find hD] at hf
        obtain ⟨c0, c1, c2, c3, c4, c5, c6⟩ := hk.cells
        have HK := hide2 hk
        clear hk hN1 HN
        cases e : plook (kl s) D with
        | none =>
          rw [e] at hf
          go_wp2_with fail
          refine hf.mono ?_
          rintro e' w2 ⟨rfl, rfl⟩
          go_wp2
          go_ret
          rw [ho, h1, h2, e]
          exact ⟨rfl, HK.out, hF, hz⟩
        | some i =>
          rw [e] at hf
          have hin : ¬ ((i : Int) < 0) := by omega
          have hin2 : decide ((i : Int) < 0) = false := by simp
          go_wp2_with fail
          refine hf.mono ?_
          rintro e' w2 ⟨rfl, rfl⟩
          by_cases hop : 65536 ≤ n
          · go_wp2
            go_ret
            rw [ho, h1, h2, e]
            exact ⟨by simp [rcode, pcode, hop], HK.out, hF, hz⟩
          · go_wp2
            go_ret
            rw [ho, h1, h2, e]
            exact ⟨by simp [rcode, pcode, hop], HK.out, hF, hz⟩
end Go.Proofs.Ytmggmnbialacbaa

/-
  The document's own disk: Sync, SyncDir.
-/
set_option linter.unusedVariables false
set_option linter.unusedSimpArgs false
namespace Go.Proofs.Ytmggmnbialacbaa
open Go.RowKit Go.Maps

/-- What is left behind a call. -/
def Rres (w w' : World) (r : Nat) (κ : Nat → Ro) (P : PD) (cut : Int) (off : Bool) : Prop :=
  ∃ κ', RD w' r κ' P cut off ∧ (∀ j, j < w.heap.size → κ' j = κ j) ∧ Fr (fun j => κ j ≠ .out) w w'

section
variable {w w' : World} {r : Nat} {κ : Nat → Ro} {vF vO vL vN : Value} {φ : Nat → Nat} {β : Nat → Value} {P : PD} {cut : Int} {off : Bool}
theorem Wd.files (h : Wd w r κ vF vO vL vN φ β P cut off) {i : Nat} (hi : i < P.fil.length) : ∃ g cap, vF = .slice (some ⟨g, 0, none⟩) P.fil.length cap ∧ w.cell? ⟨g, i, none⟩ = some (rpt (φ i)) ∧ κ g = .fs := by
  obtain ⟨g, cap, e⟩ := Go.Joins.ownsRow_form h.rF (by omega)
  have hr := h.rF
  rw [e] at hr
  refine ⟨g, cap, e, ?_, h.kF g (by rw [e]; rfl)⟩
  rw [World.ownsRow.cellAt hr i (by omega), List.getElem?_map, List.getElem?_range hi]
  rfl
/-- Nothing was done. -/
theorem Wd.idle (h : Wd w r κ vF vO vL vN φ β P cut off) {off' : Bool} (hk : Rk w' r vF vO vL vN P.n cut off') (hF : Fr (fun j => j = r) w w') : Rres w w' r κ P cut off' :=
  ⟨κ, ⟨vF, vO, vL, vN, φ, β, h.blk hF hk⟩, fun _ _ => rfl, hF.mono fun j _ e => by rw [e, h.kr]; exact Ro.noConfusion⟩

set_option maxHeartbeats 4000000 in
set_option maxRecDepth 100000 in
theorem ref_sync (h : RD w r κ P cut off) (hP : P.inv) (s : ByteArray) (hs : s.size ≤ maxLen) :
    Calls Try.prog 31 #[.pointer (some ⟨r, 0, none⟩), .string s] w fun e w' => e = .returned (.int .i64 (if offed P.n cut off = true then 24 else (P.sync s).1)) ∧ Rres w w' r κ (if offed P.n cut off = true then P else (P.sync s).2) cut (offed P.n cut off) := by
  obtain ⟨vF, vO, vL, vN, φ, β, h⟩ := h
  have hg := hP.now
  have hl := hg.len
  have hne : ∀ g, vN.ownBlock = some g → g ≠ r := fun g e e2 => by
    have := h.kN g e
    rw [e2, h.kr] at this
    cases this
  have hr := ref_ready h.rk h.rN hne hg.txt (by omega) s s hs hs
  have HW := hide2 h
  have HP := hide2 hP
  have HG := hide2 hg
  have HL := hide2 hl
  clear h hP hg hl
  go_enter Try.func31, Try.ntmps31
  go_wp2_with fail
  refine hr.mono ?_
  rintro e w1 ⟨rfl, hk, hF, hz⟩
  clear hr
  cases ho : offed P.n cut off with
  | true =>
    rw [ho] at hk
    have er : rcode true (isName s && isName s) (plook (kl s) P.now) P.n = 24 := rfl
    rw [er]
    have HK := hide2 hk
    clear hk
    go_wp2
    all_goals
      go_ret
      exact ⟨rfl, HW.out.idle HK.out hF⟩
  | false =>
    rw [ho] at hk
    have er : rcode false (isName s && isName s) (plook (kl s) P.now) P.n = pcode (isName s) (plook (kl s) P.now) P.n := by rw [Bool.and_self]; rfl
    rw [er]
    by_cases hc : pcode (isName s) (plook (kl s) P.now) P.n = 0
    · rw [hc]
      obtain ⟨hn, ⟨i, hi⟩, hop⟩ := pcode_zero hc
      obtain ⟨a1, a2, a3, a4⟩ := HP.out.at hi
      have hil := (List.getElem?_eq_some_iff.1 a1).1
      have hlo := HP.out.lo
      have s1 := Sm.of_blk HW.out hF
      have h1 := HW.out.blk hF hk
      have hN1 := h1.rN
      have hf : ∀ q, Calls Try.prog 58 #[vN, .string s] (w1.drewN q) fun e w' => e = .returned (.int .i64 (i : Int)) ∧ w' = w1.drewN q := fun q => by
        have := find_ref (w := w1.drewN q) (row_any hN1 fun j e => rfl) (by rw [nl_len]; exact Nat.le_trans HL.out (by decide)) s
        rw [nl_find (D := P.now) HG.out.txt, hi] at this
        exact this
      obtain ⟨g, cap, rfl, hcell, hkg⟩ := h1.files (i := i) hil
      unfold rpt at hcell
      obtain ⟨b1, b2, b3, b4⟩ := h1.fil i _ a1
      obtain ⟨ao, lb, capb, hbv, hsl, _⟩ := b3.sl' a2
      have hlb : lb = (P.at i).1.length := hsl.1.symm
      rw [hbv] at b1
      obtain ⟨q0, q1⟩ := b1.cells
      have fq := b1.free 1
      obtain ⟨c0, c1, c2, c3, c4, c5, c6⟩ := hk.cells
      have fr4 := hk.free 4
      have hnr : φ i ≠ r := fun e => by
        have := b2
        rw [e, HW.out.kr] at this
        cases this
      have hc63 : P.n + 1 < 9223372036854775808 := by omega
      have HK := hide2 hk
      have H1 := hide2 h1
      have HB1 := hide2 b1
      have HB2 := hide2 b2
      have HA1 := hide2 a1
      clear hN1 hk h1 b1 b2 b3 b4 a1 a2 a3 a4 hsl s1
      go_wp2
      go_quiet ((go_at_call 58; exact Calls.quiet_of_same (hf _)))
      clear hf
      have ea : P.sync s = (0, { P with fil := P.fil.set i ((P.at i).1, (P.at i).1.length), n := P.n + 1 }) := by
        unfold PD.sync
        rw [if_pos hc, hi]
      have HE := hide2 ea
      clear ea
      go_wp2
      all_goals
        go_ret
        rw [HE.out]
        refine ⟨rfl, ?_⟩
        have hF2 : Fr (fun j => j = φ i ∨ j = r) w1 (((w1.drewN nq).setCell ⟨φ i, 1, none⟩ (.int .i64 ((P.at i).1.length : Int))).setCell ⟨r, 4, none⟩ (.int .i64 (P.n + 1))) := Fr.setCell (p := ⟨r, 4, none⟩) (Fr.setCell (p := ⟨φ i, 1, none⟩) ((Fr.refl _ w1).drewN _) (.inl (.inl rfl)) _) (.inl (.inr rfl)) _
        have sm : Sm κ (fun x => x = .dsk ∨ x = .fl i) w1 (((w1.drewN nq).setCell ⟨φ i, 1, none⟩ (.int .i64 ((P.at i).1.length : Int))).setCell ⟨r, 4, none⟩ (.int .i64 (P.n + 1))) := ⟨hF2.size, fun j hj hn => hF2.block j hj (by
          rintro (e | e)
          · exact hn (.inr (by rw [e]; exact HB2.out))
          · exact hn (.inl (by rw [e]; exact HW.out.kr)))⟩
        have hk2 : Rk (((w1.drewN nq).setCell ⟨φ i, 1, none⟩ (.int .i64 ((P.at i).1.length : Int))).setCell ⟨r, 4, none⟩ (.int .i64 (P.n + 1))) r (.slice (some ⟨g, 0, none⟩) P.fil.length cap) vO vL vN (P.n + 1) cut false :=
          Rk.set (HK.out.same (w' := (w1.drewN nq).setCell ⟨φ i, 1, none⟩ (.int .i64 ((P.at i).1.length : Int))) (Below.heap_setCell _ _ _ _ (Ne.symm hnr))) |>.2.2.2.2.1 (P.n + 1)
        have hlen : (P.fil.set i ((P.at i).1, (P.at i).1.length)).length = P.fil.length := by simp
        refine ⟨κ, ⟨_, vO, vL, vN, φ, β, hk2, HW.out.kr, ?_, H1.out.kF, H1.out.oO sm (by simp), H1.out.kO, H1.out.oL sm (by simp), H1.out.kL, H1.out.oN sm (by simp), H1.out.kN, fun k x hx => ?_, fun g hg => Nat.lt_of_lt_of_le (H1.out.frs g hg) sm.1⟩, fun _ _ => rfl, ?_⟩
        · have := H1.out.oF sm (by simp)
          show World.ownsRow _ 0 _ 1 _ (P.fil.set i ((P.at i).1, (P.at i).1.length)).length ((List.range (P.fil.set i ((P.at i).1, (P.at i).1.length)).length).map _)
          rw [hlen]
          exact this
        · have hx' : (P.fil.set i ((P.at i).1, (P.at i).1.length))[k]? = some x := hx
          by_cases e : k = i
          · subst e
            rw [List.getElem?_set, if_pos rfl, if_pos hil] at hx'
            cases hx'
            obtain ⟨b1, b2, b3, b4⟩ := H1.out.fil k _ HA1.out
            refine ⟨?_, b2, row_same b3 fun j ej => sm.2 j (World.ownsRow.lt b3 j ej).2 (by rw [b4 j ej]; simp), b4⟩
            have e1 : ((w1.drewN nq).setCell ⟨φ k, 1, none⟩ (.int .i64 ((P.at k).1.length : Int))).heap[φ k]? = some (.cells #[β k, .int .i64 ((P.at k).1.length : Int)] 94 (0, 0)) := by
              rw [Go.Joins.block_setCell (w := w1.drewN nq) b1]
              rfl
            exact (Below.heap_setCell _ _ _ _ hnr).trans e1
          · rw [List.getElem?_set, if_neg (Ne.symm e)] at hx'
            exact H1.out.oFil sm k x hx' (by simp [e]) (by simp)
        · refine hF.mono (fun j _ e => ?_) |>.trans hF2 (fun j e => .inl ?_)
          · rw [e, HW.out.kr]; exact Ro.noConfusion
          · rcases e with e | e
            · rw [e, HB2.out]; exact Ro.noConfusion
            · rw [e, HW.out.kr]; exact Ro.noConfusion
    · have ea : P.sync s = (pcode (isName s) (plook (kl s) P.now) P.n, P) := by
        unfold PD.sync
        rw [if_neg hc]
      have HE := hide2 ea
      have HK := hide2 hk
      clear ea hk
      generalize hx : pcode (isName s) (plook (kl s) P.now) P.n = x at *
      have hd : decide (x = 0) = false := by simpa using hc
      clear hx
      go_wp2
      all_goals
        go_ret
        rw [HE.out]
        exact ⟨rfl, HW.out.idle HK.out hF⟩

set_option maxHeartbeats 2000000 in
theorem ref_syncDir (h : RD w r κ P cut off) (hP : P.inv) :
    Calls Try.prog 35 #[.pointer (some ⟨r, 0, none⟩)] w fun e w' => e = .returned (.int .i64 (if offed P.n cut off = true then 24 else P.syncDir.1)) ∧ Rres w w' r κ (if offed P.n cut off = true then P else P.syncDir.2) cut (offed P.n cut off) := by
  obtain ⟨vF, vO, vL, vN, φ, β, h⟩ := h
  obtain ⟨aN, capN, rfl⟩ := h.rN.form
  have hr := ref_may h.rk
  have hlo := hP.lo
  have HW := hide2 h
  clear h
  go_enter Try.func35, Try.ntmps35
  go_wp2_with fail
  refine hr.mono ?_
  rintro e w1 ⟨rfl, hk, hF, hz⟩
  clear hr
  cases ho : offed P.n cut off with
  | true =>
    rw [ho] at hk
    have HK := hide2 hk
    clear hk
    go_wp2
    all_goals
      go_ret
      exact ⟨rfl, HW.out.idle HK.out hF⟩
  | false =>
    rw [ho] at hk
    obtain ⟨c0, c1, c2, c3, c4, c5, c6⟩ := hk.cells
    have f1 := hk.free 1
    have f2 := hk.free 2
    have f4 := hk.free 4
    by_cases hop : 65536 ≤ P.n
    · have ea : P.syncDir = (23, P) := by
        unfold PD.syncDir
        rw [if_pos hop]
      have HE := hide2 ea
      have HK := hide2 hk
      clear ea hk
      go_wp2
      all_goals
        go_ret
        rw [HE.out]
        exact ⟨rfl, HW.out.idle HK.out hF⟩
    · have ea : P.syncDir = (0, { P with old := P.now, log := [], n := P.n + 1 }) := by
        unfold PD.syncDir
        rw [if_neg hop]
      have hc63 : P.n + 1 < 9223372036854775808 := by omega
      have hd0 : decide (65536 ≤ P.n) = false := by simpa using hop
      have HE := hide2 ea
      have HK := hide2 hk
      clear ea hk
      go_wp2
      all_goals
        go_ret
        rw [HE.out]
        refine ⟨rfl, ?_⟩
        have hF2 : Fr (fun j => j = r) w (((w1.setCell ⟨r, 1, none⟩ (.slice aN (nl P.now).length capN)).setCell ⟨r, 2, none⟩ (.slice none 0 0)).setCell ⟨r, 4, none⟩ (.int .i64 (P.n + 1))) := Fr.setCell (p := ⟨r, 4, none⟩) (Fr.setCell (p := ⟨r, 2, none⟩) (Fr.setCell (p := ⟨r, 1, none⟩) hF (.inl rfl) _) (.inl rfl) _) (.inl rfl) _
        have sm := Sm.of_blk HW.out hF2
        exact ⟨κ, ⟨vF, .slice aN (nl P.now).length capN, .slice none 0 0, .slice aN (nl P.now).length capN, φ, β, (((HK.out.set.2.1 (.slice aN (nl P.now).length capN)).set.2.2.1 (.slice none 0 0)).set.2.2.2.2.1 (P.n + 1)), HW.out.kr, HW.out.oF sm (by simp), HW.out.kF, HW.out.oN sm (by simp), HW.out.kN, World.ownsRow_nil _ _ _ _, (fun g e => by cases e), HW.out.oN sm (by simp), HW.out.kN, fun i x hi => HW.out.oFil sm i x hi (by simp) (by simp), fun g hg => Nat.lt_of_lt_of_le (HW.out.frs g hg) sm.1⟩, fun _ _ => rfl, hF2.mono fun j _ e => by rw [e, HW.out.kr]; exact Ro.noConfusion⟩
end
end Go.Proofs.Ytmggmnbialacbaa

/-
  A crash: the whole of the new disk.
-/
set_option linter.unusedVariables false
set_option linter.unusedSimpArgs false
namespace Go.Proofs.Ytmggmnbialacbaa.Land
open Go.RowKit Go.Maps

/-! ### Rows that are numbered anew -/
def renum (D : PDir) : PDir := D.zipIdx.map fun q => (q.1.1, q.2)
theorem renum_at (D : PDir) (i : Nat) : (renum D)[i]? = D[i]?.map fun p => (p.1, i) := by
  unfold renum
  rw [List.getElem?_map, List.getElem?_zipIdx]
  cases D[i]? <;> simp
theorem renum_len (D : PDir) : (renum D).length = D.length := by simp [renum]
theorem renum_keys (D : PDir) : (renum D).map (·.1) = D.map (·.1) := by
  apply List.ext_getElem?
  intro i
  rw [List.getElem?_map, List.getElem?_map, renum_at]
  cases D[i]? <;> rfl
theorem renum_rise {D : PDir} (h : Rise D) : Rise (renum D) := by
  have h1 : (D.map (·.1)).Pairwise (fun a b => a.before b = true) := List.pairwise_map.2 h
  rw [← renum_keys] at h1
  exact List.pairwise_map.1 h1
theorem renum_mem {D : PDir} {p : Lit × Nat} (h : p ∈ renum D) : ∃ q, D[p.2]? = some q ∧ q.1 = p.1 := by
  obtain ⟨i, hi⟩ := List.mem_iff_getElem?.1 h
  rw [renum_at] at hi
  cases e : D[i]? with
  | none => rw [e] at hi; cases hi
  | some q =>
    rw [e] at hi
    cases hi
    exact ⟨q, e, rfl⟩
theorem look_at : ∀ {D : PDir} {i : Nat} {p : Lit × Nat}, Rise D → Txt D → D[i]? = some p → plook p.1 D = some p.2
  | [], _, _, _, _, h => by cases h
  | y :: r, 0, p, h, ht, hi => by
    cases hi
    obtain ⟨s, e⟩ := ht y (by simp)
    have hs : y.1.sameKey y.1 = true := by rw [e, same_kl]; simp
    simp [plook, hs]
  | y :: r, i + 1, p, h, ht, hi => by
    obtain ⟨h1, h2⟩ := List.pairwise_cons.1 h
    have hi' : r[i]? = some p := by simpa using hi
    have hb := h1 p (List.mem_of_getElem? hi')
    have ih := look_at (D := r) h2 (fun q hq => ht q (by simp [hq])) hi'
    have hs : y.1.sameKey p.1 = false := by
      obtain ⟨s, e⟩ := ht y (by simp)
      obtain ⟨t, e2⟩ := ht p (by simp [List.mem_of_getElem? hi'])
      rw [e, e2, same_kl]
      have : s ≠ t := fun e3 => by
        rw [e, e2, e3, WideShapes.before_irrefl] at hb
        cases hb
      simpa using this
    unfold plook at ih ⊢
    rw [List.find?_cons, hs]
    exact ih
theorem look_idx {D : PDir} {s : ByteArray} {a : Nat} (ht : Txt D) (h : plook (kl s) D = some a) : ∃ i : Nat, D[i]? = some (kl s, a) := by
  obtain ⟨p, hp, e1, e2⟩ := look_mem h
  obtain ⟨i, hi⟩ := List.mem_iff_getElem?.1 hp
  obtain ⟨t, e3⟩ := ht p hp
  rw [e3, same_kl] at e2
  have e4 : t = s := by simpa using e2
  refine ⟨i, ?_⟩
  rw [hi, show p = (kl s, a) from Prod.ext (by rw [e3, e4]) e1]
theorem renum_good {D : PDir} {n : Nat} (h : Dgood D n) : Dgood (renum D) D.length := by
  refine ⟨renum_rise h.rise, by rw [renum_len]; exact h.len, fun p hp => ?_⟩
  obtain ⟨q, hq, e⟩ := renum_mem hp
  refine ⟨?_, (List.getElem?_eq_some_iff.1 hq).1⟩
  rw [← e]
  exact (h.all q (List.mem_of_getElem? hq)).1
theorem renum_look {D : PDir} {n : Nat} (h : Dgood D n) {i : Nat} {p : Lit × Nat} (hi : D[i]? = some p) : plook p.1 (renum D) = some i := by
  have := look_at (D := renum D) (i := i) (p := (p.1, i)) (renum_rise h.rise) (renum_good h).txt (by rw [renum_at, hi]; rfl)
  exact this

def crashed (P : PD) (ke di te : Int) : PD := ⟨renum (P.cdir di), [], (P.cdir di).map fun p => (leftOf ke te (P.at p.2), (leftOf ke te (P.at p.2)).length), 0⟩
theorem cdir_good {P : PD} (h : P.inv) (di : Int) : Dgood (P.cdir di) P.fil.length := h.dir _ (shr_le di _)
theorem at_good {P : PD} (h : P.inv) {D : PDir} (hD : Dgood D P.fil.length) {p : Lit × Nat} (hp : p ∈ D) : P.fil[p.2]? = some (P.at p.2) ∧ Byt (P.at p.2).1 ∧ (P.at p.2).2 ≤ (P.at p.2).1.length ∧ (P.at p.2).1.length ≤ 262144 := by
  have hl := (hD.all p hp).2
  have e := List.getElem?_eq_getElem hl
  have e2 : P.at p.2 = P.fil[p.2] := at_eq e
  rw [e2]
  exact ⟨e, h.fil _ _ e⟩
theorem inv_crashed {P : PD} (h : P.inv) (ke di te : Int) : (crashed P ke di te).inv := by
  have hD := cdir_good h di
  have hl := hD.len
  refine ⟨by show (0 : Int) ≤ 0; omega, by show (0 : Int) ≤ 65536; omega, by show ((0 : Nat) : Int) ≤ 0; omega, by show (((P.cdir di).map _).length : Int) ≤ 64 + 0; simp; omega, fun k hk => ?_, (fun k c hc => by cases hc), fun i x hx => ?_⟩
  · have : k = 0 := by simpa [crashed] using hk
    subst this
    show Dgood (renum (P.cdir di)) ((P.cdir di).map _).length
    rw [List.length_map]
    exact renum_good hD
  · have hx' : ((P.cdir di).map fun p => (leftOf ke te (P.at p.2), (leftOf ke te (P.at p.2)).length))[i]? = some x := hx
    rw [List.getElem?_map] at hx'
    cases e : (P.cdir di)[i]? with
    | none => rw [e] at hx'; cases hx'
    | some p =>
      rw [e] at hx'
      cases hx'
      obtain ⟨_, h2, h3, h4⟩ := at_good h hD (List.mem_of_getElem? e)
      exact ⟨leftOf_byt h2, Nat.le_refl _, Nat.le_trans (leftOf_len _ _ _) h4⟩

theorem find_inj {n : Nat} {ρ : Nat → Nat} (inj : ∀ i j, i < n → j < n → ρ i = ρ j → i = j) {i : Nat} (hi : i < n) : (List.range n).find? (fun j => decide (ρ j = ρ i)) = some i := by
  cases e : (List.range n).find? (fun j => decide (ρ j = ρ i)) with
  | none =>
    have := List.find?_eq_none.1 e i (List.mem_range.2 hi)
    simp at this
  | some j =>
    have h1 := List.mem_range.1 (List.mem_of_find?_eq_some e)
    have h2 : ρ j = ρ i := by simpa using List.find?_some e
    rw [inj j i h1 hi h2]
theorem find_back {n : Nat} {ρ : Nat → Nat} {f i : Nat} (h : (List.range n).find? (fun j => decide (ρ j = f)) = some i) : i < n ∧ ρ i = f :=
  ⟨List.mem_range.1 (List.mem_of_find?_eq_some h), by simpa using List.find?_some h⟩
theorem leftOf_size {ke te : Int} {x : List Int × Nat} (h : x.2 ≤ x.1.length) : (leftOf ke te x).length = x.2 + shr ke (x.1.length - x.2) := by
  unfold leftOf
  rw [turnL_length, List.length_take]
  have := shr_le ke (x.1.length - x.2)
  omega

section
variable {w w' : World} {K : Nat → Prop} {d : Nat} {P : PD} {cutAt : Int} {cuts gone : Bool}
theorem dr_crash (h : DR w K d P cutAt cuts gone) (hP : P.inv) (ke di te : Int) :
    Calls Try.prog 21 #[.pointer (some ⟨d, 0, none⟩), .agg #[.int .i64 ke, .int .i64 di, .int .i64 te]] w fun e w' => ∃ d', e = .returned (.pointer (some ⟨d', 0, none⟩)) ∧ w.heap.size ≤ d' ∧
      DR w' (fun j => w.heap.size ≤ j) d' (crashed P ke di te) 0 false false ∧ Below w.heap.size w w' := by
  obtain ⟨S, ρ, ⟨nb, sb, sv, cs, vf, M⟩, ok, hl, _⟩ := h
  have hD := cdir_good hP di
  have hE := hl.cdir di
  have hfile : ∀ (i : Nat) (p : Lit × Nat), (P.cdir di)[i]? = some p → S.fil (ρ p.2) = some (P.at p.2) := fun i p hp => hl.fil _ _ (at_good hP hD (List.mem_of_getElem? hp)).1
  have h1 := ok.few
  have h2 := ok.hi
  refine (crash_any M.dk M.syn (by have := ok.szs; omega) M.row (by omega) (fun i ch hi => by obtain ⟨c, a1, a2, _⟩ := M.chs i ch hi; exact ⟨c, a1, a2⟩) ke di te _ rfl (S.crashDir di) rfl (fun k hk => ?_) (fun s hs => ?_)).mono ?_
  · have hk2 : k ≤ S.chs.length := Nat.le_trans hk (shr_le _ _)
    exact (ok.fine k hk2).good
  · obtain ⟨f, x, a1, a2, _⟩ := ok.fine _ (shr_le di S.chs.length) s hs
    obtain ⟨g1, g2, g3, g4, g5, g6⟩ := M.fils.1 f x a2
    obtain ⟨ao, l, cap, hv, hsl, _⟩ := g2.sl' g3
    have hl : l = x.1.length := hsl.1.symm
    rw [hv] at g1
    exact ⟨f, ao, l, cap, x.1, x.2, a1, g1, hsl, by omega, by omega⟩
  rintro e w' ⟨d', nb', sb', L, rfl, bd, bn, bs, bne, b1, b2, b3, b4, b5, b6, b7⟩
  refine ⟨d', rfl, bd, ?_, b7⟩
  have hex : ∀ i : Nat, ∃ fv : Nat × Value, ∀ p, (P.cdir di)[i]? = some p → (∀ z, L.atKey p.1 z = pt fv.1) ∧ w.heap.size ≤ fv.1 ∧ Fl w' fv.1 fv.2 (leftOf ke te (P.at p.2)).length ∧ Own w' w.heap.size fv.2 (leftOf ke te (P.at p.2)) := fun i => by
    cases e : (P.cdir di)[i]? with
    | none => exact ⟨(0, .slice none 0 0), fun p hp => by cases hp⟩
    | some p =>
      have hmem := List.mem_of_getElem? e
      obtain ⟨s, es, _⟩ := (hD.all p hmem).1
      have hat : ∀ z, (S.crashDir di).atKey (kl s) z = pt (ρ p.2) := fun z => by
        rw [hE, ← es]
        exact mp_at (look_at hD.rise hD.txt e) z
      have hf := hfile i p e
      obtain ⟨_, q2, q3, q4⟩ := at_good hP hD hmem
      obtain ⟨g1, g2, g3, g4, g5, g6⟩ := M.fils.1 _ _ hf
      obtain ⟨ao, l, cap, hv, hsl, _⟩ := g2.sl' g3
      have hl : l = (P.at p.2).1.length := hsl.1.symm
      rw [hv] at g1
      obtain ⟨f', v, c1, c2, c3, c4⟩ := b5 s (ρ p.2) ao l cap _ _ hat g1 hsl
      rw [hl] at c3 c4
      refine ⟨(f', v), fun p' hp' => ?_⟩
      cases hp'
      rw [leftOf_size q3, es]
      exact ⟨c1, c2, c3, c4⟩
  obtain ⟨φ, hφ⟩ := Classical.skolem.1 hex
  have hinj : ∀ i j, i < (P.cdir di).length → j < (P.cdir di).length → i ≠ j → (φ i).1 ≠ (φ j).1 ∧ ∀ k, (φ i).2.ownBlock = some k → (φ j).2.ownBlock ≠ some k := fun i j hi hj hne => by
    have ei := List.getElem?_eq_getElem hi
    have ej := List.getElem?_eq_getElem hj
    obtain ⟨a1, a2, a3, a4⟩ := hφ i _ ei
    obtain ⟨c1, c2, c3, c4⟩ := hφ j _ ej
    obtain ⟨s, es, _⟩ := (hD.all _ (List.mem_of_getElem? ei)).1
    obtain ⟨t, et, _⟩ := (hD.all _ (List.mem_of_getElem? ej)).1
    have hst : kl s ≠ kl t := fun e => hne (by
      have l1 := renum_look hD ei
      have l2 := renum_look hD ej
      rw [es, e, ← et, l2] at l1
      exact (Option.some.inj l1).symm)
    rw [es] at a1
    rw [et] at c1
    obtain ⟨r1, r2⟩ := b6.2 s t _ _ rfl rfl hst a1 c1
    exact ⟨r1, fun k hk => r2 _ _ _ _ a3 c3 k hk⟩
  have hinj2 : ∀ i j, i < (P.cdir di).length → j < (P.cdir di).length → (φ i).1 = (φ j).1 → i = j := fun i j hi hj e => by
    by_cases hne : i = j
    · exact hne
    · exact absurd e (hinj i j hi hj hne).1
  have hhas : ∀ k, Maps.has L k = (plook k (P.cdir di)).isSome := fun k => by rw [b4, hE, mp_has]
  have hcl := b2.canon dirKeyed
  have hm : IsMap L := b2.isMap
  have hre := renum_good hD
  have hLeq : L = mp (fun i => (φ i).1) (renum (P.cdir di)) := by
    refine Maps.ext hcl ⟨_, rfl, List.pairwise_map.2 hre.rise, fun p hp => ?_⟩ (fun k => ?_) (fun k z hk => ?_)
    · obtain ⟨q, hq, rfl⟩ := List.mem_map.1 hp
      obtain ⟨⟨s, es, _⟩, _⟩ := hre.all q hq
      show WideAt.IsKeyLit q.1
      rw [es]
      exact kl_lit s
    · rw [hhas, mp_has]
      have key : ∀ D : PDir, (plook k D).isSome = (D.map (·.1)).any (fun x => x.sameKey k) := fun D => by
        unfold plook
        induction D with
        | nil => rfl
        | cons y r ih =>
          simp only [List.find?_cons, List.map_cons, List.any_cons]
          cases e : y.1.sameKey k with
          | true => rfl
          | false => simpa using ih
      rw [key, key, renum_keys]
    · rw [hhas] at hk
      obtain ⟨a, ha⟩ := Option.isSome_iff_exists.1 hk
      obtain ⟨p, hp, _, hsame⟩ := look_mem ha
      have ek : p.1 = k := WideAt.sameKey_eq hsame
      obtain ⟨i, hi⟩ := List.mem_iff_getElem?.1 hp
      rw [← ek, (hφ i p hi).1, mp_at (renum_look hD hi)]
  have hL64 : Maps.size L ≤ 64 := by
    rw [hLeq, mp_size, renum_len]
    exact hD.len
  have hfil : ∀ i (x : List Int × Nat), (crashed P ke di te).fil[i]? = some x → ∃ p, (P.cdir di)[i]? = some p ∧ i < (P.cdir di).length ∧ x = (leftOf ke te (P.at p.2), (leftOf ke te (P.at p.2)).length) := fun i x hx => by
    have hx' : ((P.cdir di).map fun p => (leftOf ke te (P.at p.2), (leftOf ke te (P.at p.2)).length))[i]? = some x := hx
    rw [List.getElem?_map] at hx'
    cases e : (P.cdir di)[i]? with
    | none => rw [e] at hx'; cases hx'
    | some p =>
      rw [e] at hx'
      cases hx'
      exact ⟨p, rfl, (List.getElem?_eq_some_iff.1 e).1, rfl⟩
  have hback : ∀ f x, (((List.range (P.cdir di).length).find? (fun i => decide ((φ i).1 = f))).bind fun i => (crashed P ke di te).fil[i]?) = some x → ∃ i p, (P.cdir di)[i]? = some p ∧ i < (P.cdir di).length ∧ (φ i).1 = f ∧ (List.range (P.cdir di).length).find? (fun i => decide ((φ i).1 = f)) = some i ∧ x = (leftOf ke te (P.at p.2), (leftOf ke te (P.at p.2)).length) := fun f x hx => by
    cases e : (List.range (P.cdir di).length).find? (fun i => decide ((φ i).1 = f)) with
    | none => rw [e] at hx; cases hx
    | some i =>
      rw [e] at hx
      obtain ⟨p, hp, hi, hxe⟩ := hfil i x hx
      exact ⟨i, p, hp, hi, (find_back e).2, rfl, hxe⟩
  have hforth : ∀ i, i < (P.cdir di).length → (((List.range (P.cdir di).length).find? (fun j => decide ((φ j).1 = (φ i).1))).bind fun i => (crashed P ke di te).fil[i]?) = (crashed P ke di te).fil[i]? := fun i hi => by
    rw [find_inj (ρ := fun i => (φ i).1) hinj2 hi]
    rfl
  have hcl2 : (crashed P ke di te).fil.length = (P.cdir di).length := by show ((P.cdir di).map _).length = _; simp
  refine ⟨⟨L, L, [], fun f => ((List.range (P.cdir di).length).find? (fun i => decide ((φ i).1 = f))).bind fun i => (crashed P ke di te).fil[i]?, 0, 0, false, false⟩, fun i => (φ i).1, ⟨some nb', some sb', .slice none 0 0, [], fun f => match (List.range (P.cdir di).length).find? (fun i => decide ((φ i).1 = f)) with | some i => (φ i).2 | none => .slice none 0 0, ?_⟩, ?_, ?_, rfl, rfl, rfl⟩
  · refine ⟨b1, .inr ⟨nb', _, rfl, b2⟩, .inr ⟨sb', _, rfl, b3⟩, (fun j e => by cases e; exact bn), (fun j e => by cases e; exact bs), (fun j e e2 => by cases e; cases e2; exact bne rfl), World.ownsRow_nil _ _ _ _, (fun j e => by cases e), (fun i ch hi => by cases hi), ⟨fun f x hf => ?_, fun f g x y j hf hg hj hj' => ?_⟩⟩
    · obtain ⟨i, p, hp, hi, rfl, hfi, rfl⟩ := hback f x hf
      obtain ⟨a1, a2, a3, a4⟩ := hφ i p hp
      obtain ⟨_, q2, q3, q4⟩ := at_good hP hD (List.mem_of_getElem? hp)
      show Fl w' _ (match (List.range (P.cdir di).length).find? (fun j => decide ((φ j).1 = (φ i).1)) with | some i => (φ i).2 | none => .slice none 0 0) _ ∧ Own w' 0 (match (List.range (P.cdir di).length).find? (fun j => decide ((φ j).1 = (φ i).1)) with | some i => (φ i).2 | none => .slice none 0 0) _ ∧ Byt _ ∧ _ ∧ _ ∧ _ ∧ ∀ j, (match (List.range (P.cdir di).length).find? (fun j => decide ((φ j).1 = (φ i).1)) with | some i => (φ i).2 | none => .slice none 0 0).ownBlock = some j → _
      rw [hfi]
      exact ⟨a3, Go.Joins.ownsRow_le a4 (Nat.zero_le _), leftOf_byt q2, Nat.le_refl _, Nat.le_trans (leftOf_len _ _ _) q4, a2, fun j hj => (World.ownsRow.lt a4 j hj).1⟩
    · obtain ⟨i, p, hp, hi, rfl, hfi, rfl⟩ := hback f x hf
      obtain ⟨i', p', hp', hi', rfl, hfi', rfl⟩ := hback g y hg
      have hj1 : (match (List.range (P.cdir di).length).find? (fun j => decide ((φ j).1 = (φ i).1)) with | some i => (φ i).2 | none => .slice none 0 0).ownBlock = some j := hj
      have hj2 : (match (List.range (P.cdir di).length).find? (fun j => decide ((φ j).1 = (φ i').1)) with | some i => (φ i).2 | none => .slice none 0 0).ownBlock = some j := hj'
      rw [hfi] at hj1
      rw [hfi'] at hj2
      by_cases e : i = i'
      · rw [e]
      · exact absurd hj2 ((hinj i i' hi hi' e).2 j hj1)
  · refine ⟨by show (0 : Int) ≤ 0; omega, by show (0 : Int) ≤ 65536; omega, by show ((0 : Nat) : Int) ≤ 0; omega, .inr hm, .inr hm, hL64, hL64, rfl, fun k hk => ?_⟩
    have : k = 0 := by simpa using hk
    subst this
    show Fine (dn L) _
    rw [dn_id hm]
    intro s hs
    rw [hhas] at hs
    obtain ⟨a, ha⟩ := Option.isSome_iff_exists.1 hs
    obtain ⟨i, hi⟩ := look_idx hD.txt ha
    have hil := (List.getElem?_eq_some_iff.1 hi).1
    obtain ⟨t, et, hn⟩ := (hD.all _ (List.mem_of_getElem? hi)).1
    refine ⟨(φ i).1, (leftOf ke te (P.at a), (leftOf ke te (P.at a)).length), (hφ i _ hi).1, ?_, ?_⟩
    · refine (hforth i hil).trans ?_
      show ((P.cdir di).map fun p => (leftOf ke te (P.at p.2), (leftOf ke te (P.at p.2)).length))[i]? = _
      rw [List.getElem?_map, hi]
      rfl
    · rw [kl_inj et]
      exact hn
  · refine ⟨rfl, rfl, fun k hk => ?_, fun i x hx => ?_, fun i j hi hj => hinj2 i j (by rw [← hcl2]; exact hi) (by rw [← hcl2]; exact hj), fun k hk p hp => ?_⟩
    · have : k = 0 := by simpa [crashed] using hk
      subst this
      show dn L = mp _ (renum (P.cdir di))
      rw [dn_id hm]
      exact hLeq
    · obtain ⟨p, hp, hi, rfl⟩ := hfil i x hx
      show (((List.range (P.cdir di).length).find? (fun j => decide ((φ j).1 = (φ i).1))).bind fun i => (crashed P ke di te).fil[i]?) = _
      rw [hforth i hi]
      exact hx
    · have : k = 0 := by simpa [crashed] using hk
      subst this
      rw [hcl2]
      exact (hre.all p hp).2
end
end Go.Proofs.Ytmggmnbialacbaa.Land

/-
  Read of every kind, Poke.
-/
set_option linter.unusedVariables false
set_option linter.unusedSimpArgs false
namespace Go.Proofs.Ytmggmnbialacbaa.Land
open Go.RowKit Go.Maps

section
variable {w w' : World} {K : Nat → Prop} {d : Nat} {P : PD} {cutAt : Int} {cuts gone : Bool} {syn since : Value} {mb : Option Nat} {ops : Int} {D : DataW Value}
theorem read_bad (h : Dk w d (.map mb) syn since ops cutAt cuts false) (s : ByteArray) (hs : s.size ≤ maxLen) (hn : isName s = false) :
    Calls Try.prog 22 #[.pointer (some ⟨d, 0, none⟩), .string s] w fun e w' => e = .returned (.tuple #[.slice none 0 0, .int .i64 20]) ∧ w' = w := by
  obtain ⟨c0, c1, c2, c3, c4, c5, c6⟩ := h.cells
  have hfind := find_bad (w := w) (p := .pointer (some ⟨d, 0, none⟩)) s hs hn
  clear h
  go_enter Try.func22, Try.ntmps22
  go_wp2_with fail
  refine hfind.mono ?_
  rintro e w' ⟨rfl, rfl⟩
  go_wp2
  go_ret2
  exact ⟨rfl, rfl⟩
theorem read_none (h : Dk w d (.map mb) syn since ops cutAt cuts false) (hd : Dir w mb D) (s : ByteArray) (hn : isName s = true) (hl : Leads D s none) :
    Calls Try.prog 22 #[.pointer (some ⟨d, 0, none⟩), .string s] w fun e w' => e = .returned (.tuple #[.slice none 0 0, .int .i64 21]) ∧ w' = w := by
  obtain ⟨c0, c1, c2, c3, c4, c5, c6⟩ := h.cells
  have hfind := find_none h hd s hn hl
  clear h
  go_enter Try.func22, Try.ntmps22
  go_wp2_with fail
  refine hfind.mono ?_
  rintro e w' ⟨rfl, rfl⟩
  go_wp2
  go_ret2
  exact ⟨rfl, rfl⟩

theorem poke_bad (h : Dk w d (.map mb) syn since ops cutAt cuts gone) (s : ByteArray) (hs : s.size ≤ maxLen) (hn : isName s = false) (at0 b : Int) :
    Calls Try.prog 37 #[.pointer (some ⟨d, 0, none⟩), .string s, .int .i64 at0, .int .u8 b] w fun e w' => e = .returned (.int .i64 20) ∧ w' = w := by
  have hfind := find_bad (w := w) (p := .pointer (some ⟨d, 0, none⟩)) s hs hn
  clear h
  go_enter Try.func37, Try.ntmps37
  go_wp2_with fail
  refine hfind.mono ?_
  rintro e w' ⟨rfl, rfl⟩
  go_wp2
  go_ret
  exact ⟨rfl, rfl⟩
theorem poke_none (h : Dk w d (.map mb) syn since ops cutAt cuts gone) (hd : Dir w mb D) (s : ByteArray) (hn : isName s = true) (hl : Leads D s none) (at0 b : Int) :
    Calls Try.prog 37 #[.pointer (some ⟨d, 0, none⟩), .string s, .int .i64 at0, .int .u8 b] w fun e w' => e = .returned (.int .i64 21) ∧ w' = w := by
  have hfind := find_none h hd s hn hl
  clear h
  go_enter Try.func37, Try.ntmps37
  go_wp2_with fail
  refine hfind.mono ?_
  rintro e w' ⟨rfl, rfl⟩
  go_wp2
  go_ret
  exact ⟨rfl, rfl⟩
theorem poke_arg (h : Dk w d (.map mb) syn since ops cutAt cuts gone) (hd : Dir w mb D) (s : ByteArray) (hn : isName s = true) (f sy : Nat) (hl : Leads D s (some ⟨f, 0, none⟩)) (ao : Option Addr) (len cap : Nat) (hf : Fl w f (.slice ao len cap) sy) (at0 b : Int) (ha : at0 < 0 ∨ (len : Int) ≤ at0) :
    Calls Try.prog 37 #[.pointer (some ⟨d, 0, none⟩), .string s, .int .i64 at0, .int .u8 b] w fun e w' => e = .returned (.int .i64 2) ∧ ∃ q, w' = w.drewN q := by
  have hfind := find_some h hd s hn _ hl
  have cf := hf.cells.1
  clear h
  go_enter Try.func37, Try.ntmps37
  go_wp2_with fail
  refine hfind.mono ?_
  rintro e w' ⟨rfl, rfl⟩
  by_cases h0 : at0 < 0
  · go_wp2
    go_ret
    exact ⟨rfl, 0, rfl⟩
  · have h1 : (len : Int) ≤ at0 := by omega
    have h2 : decide (at0 < 0) = false := by simpa using h0
    go_wp2
    go_ret
    exact ⟨rfl, 0, rfl⟩
theorem poke_ok (h : Dk w d (.map mb) syn since ops cutAt cuts gone) (hd : Dir w mb D) (s : ByteArray) (hn : isName s = true) (f sy : Nat) (hl : Leads D s (some ⟨f, 0, none⟩)) (g len cap : Nat) (ys : List Int) (hf : Fl w f (.slice (some ⟨g, 0, none⟩) len cap) sy) (hown : Own w 0 (.slice (some ⟨g, 0, none⟩) len cap) ys) (k : Nat) (hk : k < len) (hlen : len ≤ 262144) (b : Int) :
    Calls Try.prog 37 #[.pointer (some ⟨d, 0, none⟩), .string s, .int .i64 (k : Int), .int .u8 b] w fun e w' => e = .returned (.int .i64 0) ∧ ∃ q, w' = (w.drewN q).setCell ⟨g, k, none⟩ (.int .u8 b) := by
  have hfind := find_some h hd s hn _ hl
  have cf := hf.cells.1
  have e0 : len = ys.length := by
    rcases Go.Joins.ownsRow_forms hown with ⟨e, _⟩ | ⟨g', cap', e⟩
    · cases e
    · cases e; rfl
  have fz : w.frozen? ⟨g, k, none⟩ = false := by
    rw [e0] at hown
    exact World.ownsRow.frozenAt hown k
  have cc : (w.cell? ⟨g, k, none⟩).isSome = true := by
    rw [e0] at hown
    have hk2 : k < (bc ys).length := by rw [bc_length]; omega
    rw [World.ownsRow.cellAt hown k (by omega), List.getElem?_eq_getElem hk2]
    rfl
  obtain ⟨c, hc⟩ := Option.isSome_iff_exists.1 cc
  clear h hown cc
  go_enter Try.func37, Try.ntmps37
  go_wp2_with fail
  refine hfind.mono ?_
  rintro e w' ⟨rfl, rfl⟩
  have h1 : ¬ ((k : Int) < 0) := by omega
  have h3 : ¬ ((len : Int) ≤ (k : Int)) := by omega
  have h2 : decide ((k : Int) < 0) = false := by simp
  have h4 : decide ((len : Int) ≤ (k : Int)) = false := by simpa using hk
  go_wp2
  go_ret
  exact ⟨rfl, 0, rfl⟩
end
end Go.Proofs.Ytmggmnbialacbaa.Land

/-
  The names of a disk; what is read of it; a byte that is turned.
-/
set_option linter.unusedVariables false
set_option linter.unusedSimpArgs false
namespace Go.Proofs.Ytmggmnbialacbaa.Land
open Go.RowKit Go.Maps Go.Sort

theorem before_lt : ∀ x y : List UInt8, bytesBefore x y = true → x < y
  | [], [], h => by cases h
  | [], _ :: _, _ => List.nil_lt_cons _ _
  | _ :: _, [], h => by cases h
  | a :: x, b :: y, h => by
    have h' : (decide (a < b) || (a == b && bytesBefore x y)) = true := h
    rw [List.cons_lt_cons_iff]
    simp at h'
    rcases h' with h1 | ⟨h1, h2⟩
    · exact .inl h1
    · exact .inr ⟨h1, before_lt x y h2⟩
def dnames (D : PDir) : List ByteArray := D.map fun p => ks p.1
theorem nm_mp {D : PDir} (ρ : Nat → Nat) (h : Rise D) (ht : Txt D) : nm (mp ρ D) = dnames D := by
  have e1 : strKeys (mp ρ D) = D.map fun p => (ks p.1).data.toList := by
    unfold mp strKeys
    simp only [List.map_map]
    apply List.map_congr_left
    intro p hp
    obtain ⟨s, e⟩ := ht p hp
    show strOf p.1 = (ks p.1).data.toList
    rw [e]
    rfl
  have e2 : (D.map fun p => (ks p.1).data.toList).Pairwise (fun x y => decide (x ≤ y) = true) := by
    rw [List.pairwise_map]
    refine List.Pairwise.imp_of_mem ?_ h
    intro p q hp hq hb
    obtain ⟨s, e⟩ := ht p hp
    obtain ⟨t, e'⟩ := ht q hq
    rw [e, e'] at hb ⊢
    have := before_lt _ _ (show bytesBefore s.data.toList t.data.toList = true from hb)
    rw [ks_kl, ks_kl]
    exact decide_eq_true (List.le_of_lt this)
  unfold nm dnames
  rw [e1, List.mergeSort_of_pairwise e2, List.map_map]
  apply List.map_congr_left
  intro p hp
  show ByteArray.mk (ks p.1).data.toList.toArray = ks p.1
  simp

section
variable {w w' : World} {K : Nat → Prop} {d : Nat} {P : PD} {cutAt : Int} {cuts gone : Bool}
theorem dr_names (h : DR w K d P cutAt cuts gone) (hP : P.inv) :
    Calls Try.prog 23 #[.pointer (some ⟨d, 0, none⟩)] w fun e w' => ∃ ao len cap, e = .returned (.slice ao len cap) ∧ St w' ao len cap (dnames P.now) ∧ Below w.heap.size w w' := by
  obtain ⟨S, ρ, ⟨nb, sb, sv, cs, vf, M⟩, ok, hl, _⟩ := h
  have hg := hP.now
  have hnow := hl.now ok
  rcases M.now with ⟨rfl, e⟩ | ⟨b, n, rfl, ho⟩
  · have e0 : P.now = [] := by
      rw [e] at hnow
      have h1 : (DataW.map [] : DataW Value) = mp ρ P.now := hnow
      have h2 := congrArg Maps.size h1
      rw [mp_size] at h2
      exact List.eq_nil_of_length_eq_zero h2.symm
    refine (names_nil M.dk).mono ?_
    rintro e' w' ⟨rfl, hb⟩
    rw [e0]
    exact ⟨none, 0, 0, rfl, ⟨rfl, Nat.le_refl _, Nat.zero_le _, (fun s hs => by cases hs), fun h => absurd h (by omega)⟩, hb⟩
  · have hid := own_dn ho
    rw [hid] at hnow
    have hsz := ok.szn
    refine (names_any M.dk ho (by omega)).mono ?_
    rintro e w' ⟨v, ss, rfl, hp, hrow, hnil, hb⟩
    have hm : ss.mergeSort (fun x y => decide (x ≤ y)) = (strKeys S.now).mergeSort (fun x y => decide (x ≤ y)) := mergeSort_of_perm hp
    have hnm : nm S.now = dnames P.now := by rw [hnow, nm_mp ρ hg.rise hg.txt]
    have hmem : ∀ s ∈ nm S.now, s.size ≤ maxLen := fun s hs => by
      rw [hnm] at hs
      obtain ⟨p, hp, rfl⟩ := List.mem_map.1 hs
      obtain ⟨⟨t, et, hn⟩, _⟩ := hg.all p hp
      rw [et, ks_kl]
      have := isName_size hn
      unfold maxLen
      omega
    have hlen : (nm S.now).length = ss.length := by
      unfold nm
      rw [List.length_map, ← hm, List.length_mergeSort]
    rw [← hnm]
    rcases hrow.2 with ⟨rfl, h0⟩ | ⟨g, cap, cur, rfl, hg, hh, hn, hm2, hcs, hct⟩
    · exact ⟨none, 0, 0, rfl, ⟨by omega, Nat.le_refl _, Nat.zero_le _, hmem, fun h => absurd h (by omega)⟩, hb⟩
    · refine ⟨some ⟨g, 0, none⟩, ss.length, cap, rfl, ⟨hlen, hn, hm2, hmem, fun _ => ⟨g, 0, rfl, (Array.getElem?_eq_some_iff.1 hh).1, fun i hi => ?_⟩⟩, hb⟩
      rw [Nat.zero_add, Go.Joins.cell_of_block hh, ← Array.getElem?_toList]
      have e1 : (cur.toList.take (ss.length * 1))[i]? = ((ss.mergeSort (fun x y => decide (x ≤ y))).map encStr)[i]? := by rw [hct]
      rw [List.getElem?_take_of_lt (by omega), hm] at e1
      rw [e1]
      have hi2 : i < ((strKeys S.now).mergeSort (fun x y => decide (x ≤ y))).length := by rw [← hm, List.length_mergeSort]; exact hi
      simp only [nm, List.getD, List.getElem?_map, List.getElem?_eq_getElem hi2, Option.map_some, Option.getD_some]
end

/-! ### What is read, what is turned -/
def pread (P : PD) (s : ByteArray) : Int × List Int := if isName s = false then (20, []) else match plook (kl s) P.now with | none => (21, []) | some i => (0, (P.at i).1)
def ppoke (P : PD) (s : ByteArray) (k b : Int) : Int × PD := if isName s = false then (20, P) else match plook (kl s) P.now with
  | none => (21, P)
  | some i => if k < 0 ∨ ((P.at i).1.length : Int) ≤ k then (2, P) else (0, { P with fil := P.fil.set i ((P.at i).1.set k.toNat b, (P.at i).2) })
theorem inv_poke {P : PD} (h : P.inv) (s : ByteArray) (k b : Int) (hb : 0 ≤ b ∧ b ≤ 255) : (ppoke P s k b).2.inv := by
  unfold ppoke
  split
  · exact h
  · cases e : plook (kl s) P.now with
    | none => exact h
    | some i =>
      show PD.inv (if _ then (_, _) else (_, _)).2
      split
      · exact h
      · obtain ⟨h1, h2, h3, h4⟩ := h.at e
        refine ⟨h.lo, h.hi, h.few, by show ((P.fil.set _ _).length : Int) ≤ _; rw [List.length_set]; exact h.filn, fun k hk => ?_, h.fit, set_all (Q := fun (x : List Int × Nat) => Byt x.1 ∧ x.2 ≤ x.1.length ∧ x.1.length ≤ 262144) h.fil ⟨?_, ?_, ?_⟩⟩
        · show Dgood (P.dir k) (P.fil.set _ _).length
          rw [List.length_set]
          exact h.dir k hk
        · intro x hx
          rcases List.mem_or_eq_of_mem_set hx with hx | rfl
          · exact h2 x hx
          · exact hb
        · show (P.at i).2 ≤ ((P.at i).1.set _ _).length
          rw [List.length_set]; exact h3
        · show ((P.at i).1.set _ _).length ≤ 262144
          rw [List.length_set]; exact h4

section
variable {w w' : World} {K : Nat → Prop} {d : Nat} {P : PD} {cutAt : Int} {cuts gone : Bool}
theorem own_nil (w : World) (B : Nat) : Own w B (.slice none 0 0) [] := World.ownsRow_nil _ _ _ _
theorem look_lead {S : AD} {ρ : Nat → Nat} (hl : Link S P ρ) (ok : S.ok) (s : ByteArray) : (plook (kl s) P.now = none ∧ Leads S.now s none) ∨ ∃ i, plook (kl s) P.now = some i ∧ Leads S.now s (some ⟨ρ i, 0, none⟩) ∧ S.fil (ρ i) = some (P.at i) ∧ i < P.fil.length := by
  cases e : plook (kl s) P.now with
  | none =>
    refine .inl ⟨rfl, ?_⟩
    rcases ok.lead s with ⟨_, h2⟩ | ⟨f, x, _, _, h3, _⟩
    · exact h2
    · exact absurd ((hl.lead ok h3).1 e) (by simp)
  | some i =>
    obtain ⟨h1, x, h2, h3⟩ := hl.look ok s e
    refine .inr ⟨i, rfl, ?_, by rw [at_eq h2]; exact h3, (List.getElem?_eq_some_iff.1 h2).1⟩
    have := dn_at ok.isn (kl s) (.held (.pointer none))
    exact this.symm.trans (h1 _)
theorem dr_read (h : DR w K d P cutAt cuts gone) (hP : P.inv) (s : ByteArray) (hs : s.size ≤ maxLen) :
    Calls Try.prog 22 #[.pointer (some ⟨d, 0, none⟩), .string s] w fun e w' => ∃ v, e = .returned (.tuple #[v, .int .i64 (if gone then 24 else (pread P s).1)]) ∧ Own w' w.heap.size v (if gone then [] else (pread P s).2) ∧ Below w.heap.size w w' := by
  obtain ⟨S, ρ, ⟨nb, sb, sv, cs, vf, M⟩, ok, hl, rfl, rfl, hgo⟩ := h
  have hdk := M.dk
  cases gone with
  | true =>
    rw [hgo] at hdk
    refine (read_off hdk s).mono ?_
    rintro e w' ⟨rfl, rfl⟩
    exact ⟨_, rfl, own_nil _ _, Below.refl _ _⟩
  | false =>
    rw [hgo] at hdk
    show Calls _ _ _ _ fun e w' => ∃ v, e = .returned (.tuple #[v, .int .i64 (pread P s).1]) ∧ Own w' w.heap.size v (pread P s).2 ∧ _
    unfold pread
    cases hn : isName s with
    | false =>
      rw [if_pos rfl]
      refine (read_bad hdk s hs hn).mono ?_
      rintro e w' ⟨rfl, rfl⟩
      exact ⟨_, rfl, own_nil _ _, Below.refl _ _⟩
    | true =>
      rw [if_neg (by decide)]
      rcases look_lead hl ok s with ⟨e, hL⟩ | ⟨i, e, hL, hf, hi⟩
      · rw [e]
        refine (read_none hdk M.now s hn hL).mono ?_
        rintro e w' ⟨rfl, rfl⟩
        exact ⟨_, rfl, own_nil _ _, Below.refl _ _⟩
      · rw [e]
        obtain ⟨g1, g2, g3, g4, g5, g6⟩ := M.fils.1 _ _ hf
        obtain ⟨ao, l, cap, hv, hsl, _⟩ := g2.sl' g3
        rw [hv] at g1
        exact read_ok hdk M.now s hn (ρ i) _ hL ao l cap _ g1 hsl (by have := hsl.1; omega)
/-- The bytes of a file are other ones. -/
theorem mem_bytes {S : AD} {nb sb : Option Nat} {sv : Value} {cs : List Value} {vf : Nat → Value} (M : Mem w K d S nb sb sv cs vf) {f : Nat} {y : List Int × Nat} (hf : S.fil f = some y) {ys : List Int} (hl : ys.length = y.1.length) (hb : Byt ys) (ho : Own w' 0 (vf f) ys) (F : Fr (fun j => (vf f).ownBlock = some j) w w') :
    Mem w' K d { S with fil := upd S.fil f (ys, y.2) } nb sb sv cs vf := by
  obtain ⟨g1, g2, g3, g4, g5, g6, g7⟩ := M.fils.1 f y hf
  have ec : ∀ (j : Nat) (cur : Array Value) (t : TypeId), t ≠ 5 → w.heap[j]? = some (Obj.cells cur t (0, 0)) → w'.heap[j]? = w.heap[j]? := fun j cur t ht hh => F.block j (Array.getElem?_eq_some_iff.1 hh).1 fun e => by
    obtain ⟨cur', hh', _⟩ := row_block g2 e
    rw [hh] at hh'
    simp at hh'
    exact ht hh'.2
  have em : ∀ j, (nb = some j ∨ sb = some j) → w'.heap[j]? = w.heap[j]? := fun j hj => F.block j (by
    rcases hj with e | e
    · exact dir_lt M.now j e
    · exact dir_lt M.syn j e) fun e => by
    obtain ⟨cur', hh', _⟩ := row_block g2 e
    rcases hj with e | e
    · exact dir_cells M.now hh' e
    · exact dir_cells M.syn hh' e
  refine ⟨M.dk.same (F.block _ M.dk.lt fun e => ?_), Dir.same M.now fun j e => em j (.inl e), Dir.same M.syn fun j e => em j (.inr e), M.nlo, M.slo, M.ne, row_same M.row fun j e => ?_, M.rlo, fun i ch hi => ?_, ⟨fun g z hg => ?_, fun g g' z z' j hg hg' hj hj' => ?_⟩⟩
  · obtain ⟨cur', hh', _⟩ := row_block g2 e
    exact dk_cells M.dk (by decide) hh' rfl
  · obtain ⟨cur, hh, _⟩ := row_block M.row e
    exact ec _ _ _ (by decide) hh
  · obtain ⟨c, b1, b2, hbx⟩ := M.chs i ch hi
    exact ⟨c, b1, b2.same2 (fun j cur t ht hh => ec _ _ _ (by rcases ht with rfl | rfl <;> decide) hh), hbx⟩
  · have hg' : upd S.fil f (ys, y.2) g = some z := hg
    by_cases e : g = f
    · subst e
      rw [upd_same] at hg'
      cases hg'
      exact ⟨(ec _ _ _ (by decide) g1).trans g1, ho, hb, by show y.2 ≤ ys.length; omega, by show ys.length ≤ 262144; omega, g6, g7⟩
    · rw [upd_other _ _ e] at hg'
      obtain ⟨k1, k2, k3⟩ := M.fils.1 g z hg'
      refine ⟨(ec _ _ _ (by decide) k1).trans k1, row_same k2 fun j ej => ?_, k3⟩
      obtain ⟨cur, hh, _, hl2⟩ := row_block k2 ej
      exact F.block j hl2 fun e2 => e (M.fils.2 g f z y j hg' hf ej e2)
  · have back : ∀ g z, upd S.fil f (ys, y.2) g = some z → ∃ z', S.fil g = some z' := fun g z hg => by
      by_cases e : g = f
      · subst e; exact ⟨y, hf⟩
      · rw [upd_other _ _ e] at hg
        exact ⟨z, hg⟩
    obtain ⟨a, ha⟩ := back g z hg
    obtain ⟨a', ha'⟩ := back g' z' hg'
    exact M.fils.2 g g' a a' j ha ha' hj hj'
theorem bc_set (xs : List Int) (k : Nat) (b : Int) : bc (xs.set k b) = (bc xs).set k (.int .u8 b) := by
  unfold bc
  rw [List.map_set]
theorem dr_poke (h : DR w K d P cutAt cuts gone) (hP : P.inv) (s : ByteArray) (hs : s.size ≤ maxLen) (k b : Int) (hb : 0 ≤ b ∧ b ≤ 255) :
    Calls Try.prog 37 #[.pointer (some ⟨d, 0, none⟩), .string s, .int .i64 k, .int .u8 b] w fun e w' => e = .returned (.int .i64 (ppoke P s k b).1) ∧ DR w' K d (ppoke P s k b).2 cutAt cuts gone ∧ Fr K w w' := by
  have hcopy := h
  obtain ⟨S, ρ, ⟨nb, sb, sv, cs, vf, M⟩, ok, hl, rfl, rfl, rfl⟩ := h
  have hdk := M.dk
  unfold ppoke
  cases hn : isName s with
  | false =>
    rw [if_pos rfl]
    refine (poke_bad hdk s hs hn k b).mono ?_
    rintro e w' ⟨rfl, rfl⟩
    exact ⟨rfl, hcopy, Fr.refl _ _⟩
  | true =>
    rw [if_neg (by decide)]
    rcases look_lead hl ok s with ⟨e, hL⟩ | ⟨i, e, hL, hf, hi⟩
    · rw [e]
      refine (poke_none hdk M.now s hn hL k b).mono ?_
      rintro e w' ⟨rfl, rfl⟩
      exact ⟨rfl, hcopy, Fr.refl _ _⟩
    · rw [e]
      obtain ⟨g1, g2, g3, g4, g5, g6, g7⟩ := M.fils.1 _ _ hf
      obtain ⟨ao, l, cap, hv, hsl, _⟩ := g2.sl' g3
      have hll : l = (P.at i).1.length := hsl.1.symm
      have g1' := g1
      rw [hv] at g1'
      show Calls _ _ _ _ fun e w' => e = .returned (.int .i64 (if k < 0 ∨ ((P.at i).1.length : Int) ≤ k then (2, P) else _).1) ∧ DR w' K d (if k < 0 ∨ ((P.at i).1.length : Int) ≤ k then (2, P) else _).2 _ _ _ ∧ _
      by_cases hk : k < 0 ∨ ((P.at i).1.length : Int) ≤ k
      · rw [if_pos hk]
        refine (poke_arg hdk M.now s hn (ρ i) _ hL ao l cap g1' k b (by omega)).mono ?_
        rintro e w' ⟨rfl, q, rfl⟩
        exact ⟨rfl, hcopy.below ⟨rfl, rfl, rfl, Nat.le_refl _, fun _ _ => rfl⟩, (Fr.refl _ _).drewN q⟩
      · rw [if_neg hk]
        obtain ⟨k', rfl⟩ : ∃ k' : Nat, k = (k' : Int) := ⟨k.toNat, by omega⟩
        have g2' := g2
        rw [hv] at g2'
        obtain ⟨g, rfl⟩ : ∃ g, ao = some ⟨g, 0, none⟩ := by
          rcases Go.Joins.ownsRow_forms g2' with ⟨e, h0⟩ | ⟨g, c2, e⟩
          · omega
          · cases e; exact ⟨g, rfl⟩
        refine (poke_ok hdk M.now s hn (ρ i) _ hL g l cap _ g1' g2' k' (by omega) (by omega) b).mono ?_
        rintro e w' ⟨rfl, q, rfl⟩
        have hst := World.ownsRow.stored (w := w.drewN q) (base := 0) (e := 5) (size := 1) (g := g) (n := (P.at i).1.length) (cap := cap) (xs := bc (P.at i).1) (by rw [hll] at g2'; exact g2') k' (.int .u8 b)
        have hF : Fr (fun j => (vf (ρ i)).ownBlock = some j) w ((w.drewN q).setCell ⟨g, k', none⟩ (.int .u8 b)) := by
          refine ((Fr.refl _ w).drewN q).trans (G := fun j => j = g) (Fr.grown hst.2 (fun j e => by cases e; rfl)) fun j e => .inl ?_
          rw [hv, e]
          rfl
        have hM := mem_bytes M hf (ys := (P.at i).1.set k' b) (by simp) (fun x hx => by
          rcases List.mem_or_eq_of_mem_set hx with hx | rfl
          · exact g3 x hx
          · exact hb) (by
          rw [hv, hll]
          unfold Own
          rw [bc_set, List.length_set]
          exact hst.1) hF
        refine ⟨rfl, ⟨{ S with fil := upd S.fil (ρ i) ((P.at i).1.set k' b, (P.at i).2) }, ρ, ⟨nb, sb, sv, cs, vf, hM⟩, ?_, ?_, rfl, rfl, rfl⟩, hF.mono fun j _ e => g7 j e⟩
        · refine ok.files _ S.ops (Int.le_refl _) ok.hi fun g y hg => ?_
          by_cases e : g = ρ i
          · exact ⟨_, by rw [e, upd_same]⟩
          · exact ⟨y, by rw [upd_other _ _ e]; exact hg⟩
        · have := hl.files (fil' := upd S.fil (ρ i) ((P.at i).1.set k' b, (P.at i).2)) (pf := P.fil.set i ((P.at i).1.set k' b, (P.at i).2)) P.n (by simp) (hl.upd hi _)
          exact ⟨hl.ops, this.len, this.road, this.fil, this.inj, this.ids⟩
end
end Go.Proofs.Ytmggmnbialacbaa.Land

/-
  All calls of a nil disk.
-/
set_option linter.unusedVariables false
set_option linter.unusedSimpArgs false
namespace Go.Proofs.Ytmggmnbialacbaa.Land
open Go.RowKit Go.Maps

set_option maxHeartbeats 1000000
theorem nil_cutAt (w : World) (n : Int) : Calls Try.prog 27 #[.pointer none, .int .i64 n] w fun e w' => e = .returned (.tuple #[]) ∧ w' = w := by
  go_enter Try.func27, Try.ntmps27
  go_wp2
  all_goals
    (try simp only [Exit.inBlock, Exit.then])
    refine bodyPost_ret (results_none rfl _ _ _) rfl ?_
    exact ⟨rfl, rfl⟩
theorem nil_read (w : World) (s : Value) : Calls Try.prog 22 #[.pointer none, s] w fun e w' => e = .returned (.tuple #[.slice none 0 0, .int .i64 1]) ∧ w' = w := by
  go_enter Try.func22, Try.ntmps22
  go_wp2
  go_ret2
  exact ⟨rfl, rfl⟩
theorem nil_names (w : World) : Calls Try.prog 23 #[.pointer none] w fun e w' => e = .returned (.slice none 0 0) ∧ w' = w := by
  go_enter Try.func23, Try.ntmps23
  go_wp2
  go_ret
  exact ⟨rfl, rfl⟩
theorem nil_ops (w : World) : Calls Try.prog 26 #[.pointer none] w fun e w' => e = .returned (.int .i64 0) ∧ w' = w := by
  go_enter Try.func26, Try.ntmps26
  go_wp2
  go_ret
  exact ⟨rfl, rfl⟩
theorem nil_crash (w : World) (ke di te : Int) : Calls Try.prog 21 #[.pointer none, .agg #[.int .i64 ke, .int .i64 di, .int .i64 te]] w fun e w' => e = .returned (.pointer none) ∧ Below w.heap.size w w' := by
  go_enter Try.func21, Try.ntmps21
  go_wp2
  go_ret
  exact ⟨rfl, (Below.refl _ _).alloc (Nat.le_refl _) _⟩
theorem nil_start (w : World) (v : Value) : Calls Try.prog 46 #[.pointer none, v] w fun e w' => e = .returned (.int .i64 1) ∧ w' = w := by
  go_enter Try.func46, Try.ntmps46
  go_wp2
  go_ret
  exact ⟨rfl, rfl⟩
theorem nil_startOn (w : World) (s v : Value) : Calls Try.prog 42 #[.pointer none, s, v] w fun e w' => e = .returned (.int .i64 1) ∧ w' = w := by
  go_enter Try.func42, Try.ntmps42
  go_wp2_with fail
  refine (nil_start _ _).mono ?_
  rintro e w' ⟨rfl, rfl⟩
  go_wp2
  go_ret
  exact ⟨rfl, rfl⟩
theorem nil_append (w : World) (s : ByteArray) (v : Value) : Calls Try.prog 18 #[.pointer none, .string s, v] w fun e w' => e = .returned (.int .i64 1) ∧ Below w.heap.size w w' := by
  go_enter Try.func18, Try.ntmps18
  go_wp2_with fail
  refine (nil_start _ _).mono ?_
  rintro e w' ⟨rfl, rfl⟩
  go_wp2
  go_ret
  exact ⟨rfl, (Below.refl _ _).alloc (Nat.le_refl _) _⟩
theorem nil_sync (w : World) (s : ByteArray) : Calls Try.prog 19 #[.pointer none, .string s] w fun e w' => e = .returned (.int .i64 1) ∧ Below w.heap.size w w' := by
  go_enter Try.func19, Try.ntmps19
  go_wp2_with fail
  refine (nil_startOn _ _ _).mono ?_
  rintro e w' ⟨rfl, rfl⟩
  go_wp2
  go_ret
  exact ⟨rfl, Below.refl _ _⟩
theorem nil_rename (w : World) (s t : ByteArray) : Calls Try.prog 32 #[.pointer none, .string s, .string t] w fun e w' => e = .returned (.int .i64 1) ∧ Below w.heap.size w w' := by
  go_enter Try.func32, Try.ntmps32
  go_wp2_with fail
  refine (nil_startOn _ _ _).mono ?_
  rintro e w' ⟨rfl, rfl⟩
  go_wp2
  go_ret
  exact ⟨rfl, (((Below.refl _ _).alloc (Nat.le_refl _) _).alloc (by simp) _).alloc (by simp; omega) _⟩
theorem nil_delete (w : World) (s : ByteArray) : Calls Try.prog 17 #[.pointer none, .string s] w fun e w' => e = .returned (.int .i64 1) ∧ Below w.heap.size w w' := by
  go_enter Try.func17, Try.ntmps17
  go_wp2_with fail
  refine (nil_startOn _ _ _).mono ?_
  rintro e w' ⟨rfl, rfl⟩
  go_wp2
  go_ret
  exact ⟨rfl, (Below.refl _ _).alloc (Nat.le_refl _) _⟩
theorem nil_syncDir (w : World) : Calls Try.prog 20 #[.pointer none] w fun e w' => e = .returned (.int .i64 1) ∧ Below w.heap.size w w' := by
  go_enter Try.func20, Try.ntmps20
  go_wp2_with fail
  refine (nil_start _ _).mono ?_
  rintro e w' ⟨rfl, rfl⟩
  go_wp2
  go_ret
  exact ⟨rfl, Below.refl _ _⟩
theorem nil_poke (w : World) (s : ByteArray) (k b : Int) : Calls Try.prog 37 #[.pointer none, .string s, .int .i64 k, .int .u8 b] w fun e w' => e = .returned (.int .i64 1) ∧ w' = w := by
  go_enter Try.func37, Try.ntmps37
  go_wp2
  go_ret
  exact ⟨rfl, rfl⟩
end Go.Proofs.Ytmggmnbialacbaa.Land

/-
  The law's 'nothing': what a nil disk answers.
-/
set_option linter.unusedVariables false
set_option linter.unusedSimpArgs false
namespace Go.Proofs.Ytmggmnbialacbaa.Land
open Go.RowKit Go.Maps

set_option maxHeartbeats 4000000 in
set_option maxRecDepth 100000 in
theorem nothing_walk (w : World) : Calls Try.prog 13 #[] w fun e w' => e = .returned (.bool true) ∧ Below w.heap.size w w' := by
  go_enter Try.func13, Try.ntmps13
  go_wp2_with fail
  refine (nil_cutAt _ _).mono ?_
  rintro e w0 ⟨rfl, rfl⟩
  go_wp2_with fail
  refine (nil_read _ _).mono ?_
  rintro e w0' ⟨rfl, rfl⟩
  go_wp2_with fail
  refine (nil_names _).mono ?_
  rintro e w0' ⟨rfl, rfl⟩
  go_wp2_with fail
  refine (nil_ops _).mono ?_
  rintro e w0' ⟨rfl, rfl⟩
  go_wp2_with fail
  refine (nil_crash _ _ _ _).mono ?_
  rintro e w1 ⟨rfl, h1⟩
  go_wp2_with fail
  refine (nil_append _ _ _).mono ?_
  rintro e w2 ⟨rfl, h2⟩
  go_wp2_with fail
  refine (nil_sync _ _).mono ?_
  rintro e w3 ⟨rfl, h3⟩
  go_wp2_with fail
  refine (nil_rename _ _ _).mono ?_
  rintro e w4 ⟨rfl, h4⟩
  go_wp2_with fail
  refine (nil_delete _ _).mono ?_
  rintro e w5 ⟨rfl, h5⟩
  go_wp2_with fail
  refine (nil_syncDir _).mono ?_
  rintro e w6 ⟨rfl, h6⟩
  go_wp2_with fail
  refine (nil_poke _ _ _ _).mono ?_
  rintro e w7 ⟨rfl, rfl⟩
  have k1 := h1.size
  have k2 := h2.size
  have k3 := h3.size
  have k4 := h4.size
  have k5 := h5.size
  have hb := ((((h1.trans (h2.mono (by omega))).trans (h3.mono (by omega))).trans (h4.mono (by omega))).trans (h5.mono (by omega))).trans (h6.mono (by omega))
  have HB := hide2 hb
  clear hb h1 h2 h3 h4 h5 h6 k1 k2 k3 k4 k5
  go_wp2
  go_ret
  exact ⟨rfl, HB.out⟩
end Go.Proofs.Ytmggmnbialacbaa.Land
