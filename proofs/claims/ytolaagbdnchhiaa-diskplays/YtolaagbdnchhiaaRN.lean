/-
  The document's own rows of names: find, without.
-/
import Derived.Test.YtolaagbdnchhiaaPDisk
import Derived.Laws.OwnMore
import Derived.WalkSmall
import Derived.Maps.AppendAt
import Derived.Lib.OwnKind
set_option linter.unusedVariables false
set_option linter.unusedSimpArgs false
namespace Go.Proofs.Ytolaagbdnchhiaa
open Go.RowKit Go.Maps

/-- A row of names, with the number of each one's file. -/
abbrev NL := List (ByteArray × Int)
def nc (l : NL) : List Value := l.flatMap fun p => [.string p.1, .int .i64 p.2]
theorem nc_len (l : NL) : (nc l).length = l.length * 2 := by
  induction l with
  | nil => rfl
  | cons p l ih => simp only [nc, List.flatMap_cons, List.length_append, List.length_cons, List.length_nil] at *; omega
theorem nc_append (l m : NL) : nc (l ++ m) = nc l ++ nc m := by simp [nc]
theorem nc_at (l : NL) : ∀ (i : Nat) (p : ByteArray × Int), l[i]? = some p → (nc l)[i * 2]? = some (.string p.1) ∧ (nc l)[i * 2 + 1]? = some (.int .i64 p.2) := by
  induction l with
  | nil => intro i p h; cases h
  | cons q l ih =>
    intro i p h
    have e : nc (q :: l) = .string q.1 :: .int .i64 q.2 :: nc l := rfl
    cases i with
    | zero =>
      cases h
      exact ⟨rfl, rfl⟩
    | succ i =>
      obtain ⟨h1, h2⟩ := ih i p (by simpa using h)
      rw [e, show (i + 1) * 2 = i * 2 + 1 + 1 by omega]
      exact ⟨h1, h2⟩
/-- A row of names in memory, from block B on. -/
abbrev Nr (w : World) (B : Nat) (v : Value) (l : NL) : Prop := w.ownsRow B 101 2 v l.length (nc l)

theorem Nr.row {w : World} {B : Nat} {v : Value} {l : NL} (h : Nr w B v l) (hl : 0 < l.length) : ∃ g cap, v = .slice (some ⟨g, 0, none⟩) l.length cap ∧ B ≤ g ∧ g < w.heap.size ∧ ∀ i p, l[i]? = some p → w.cell? ⟨g, i * 2, none⟩ = some (.string p.1) ∧ w.cell? ⟨g, i * 2 + 1, none⟩ = some (.int .i64 p.2) := by
  obtain ⟨g, cap, rfl⟩ := Go.Joins.ownsRow_form h hl
  refine ⟨g, cap, rfl, (h.lt g rfl).1, (h.lt g rfl).2, fun i p hp => ?_⟩
  have hi := (List.getElem?_eq_some_iff.1 hp).1
  obtain ⟨h1, h2⟩ := nc_at l i p hp
  exact ⟨(h.cellAt (i * 2) (by omega)).trans h1, (h.cellAt (i * 2 + 1) (by omega)).trans h2⟩
theorem Nr.form {w : World} {B : Nat} {v : Value} {l : NL} (h : Nr w B v l) : ∃ ao cap, v = .slice ao l.length cap := by
  rcases Go.Joins.ownsRow_forms h with ⟨rfl, h0⟩ | ⟨g, cap, rfl⟩
  · exact ⟨none, 0, by rw [h0]⟩
  · exact ⟨_, cap, rfl⟩

/-- Which file a name is, or -1. -/
def nfind (l : NL) (s : ByteArray) : Int := match l.find? (fun p => decide (p.1 = s)) with | some p => p.2 | none => -1
def nwithout (l : NL) (s : ByteArray) : NL := l.filter fun p => !decide (p.1 = s)

theorem str_test (a b : ByteArray) : (a.toList == b.toList) = decide (a = b) := by
  rw [ByteArray.toList_eq, ByteArray.toList_eq]
  by_cases h : a = b
  · subst h; simp
  · have : ¬ a.data.toList = b.data.toList := fun e => h (ByteArray.ext (Array.toList_inj.1 e))
    rw [decide_eq_false h]
    exact beq_eq_false_iff_ne.2 this

set_option maxRecDepth 100000 in
set_option maxHeartbeats 1000000 in
theorem find_ref {w : World} {B : Nat} {v : Value} {l : NL} (h : Nr w B v l) (hl : l.length ≤ 100000) (s : ByteArray) :
    Calls Try.prog 58 #[v, .string s] w fun e w' => e = .returned (.int .i64 (nfind l s)) ∧ w' = w := by
  obtain ⟨ao, cap, rfl⟩ := h.form
  have HR := hide2 h.row
  go_enter Try.func58, Try.ntmps58
  go_wp2
  go_loop [5] (fun i => ∃ k : Nat, k ≤ l.length ∧ i = .int .i64 k ∧ nfind l s = nfind (l.drop k) s) (fun i => l.length - (intOf i).toNat)
  case atStart => exact ⟨0, by omega, rfl, rfl⟩
  case round =>
    obtain ⟨k, hk, rfl, he⟩ := hrel
    by_cases hkl : k < l.length
    · obtain ⟨g, cap', e, hg, hgl, hcell⟩ := HR.out (by omega)
      cases e
      obtain ⟨p, hp⟩ : ∃ p, l[k]? = some p := ⟨l[k], List.getElem?_eq_getElem hkl⟩
      obtain ⟨q0, q1⟩ := hcell k p hp
      have hdrop : l.drop k = p :: l.drop (k + 1) := by
        rw [List.drop_eq_getElem_cons hkl]
        rw [List.getElem?_eq_getElem hkl] at hp
        cases hp
        rfl
      have hc2 : (k : Int) < (l.length : Int) := by omega
      have HE := hide2 he
      clear hcell he
      by_cases hps : p.1 = s
      · have e1 : nfind l s = p.2 := by
          rw [HE.out, hdrop]
          simp [nfind, hps]
        have t1 : (p.1.toList == s.toList) = true := by rw [str_test]; simpa using hps
        have E1 := hide2 e1
        clear e1 HE hdrop hps hp
        go_wp2
        go_ret
        exact ⟨ret_int E1.out.symm, rfl⟩
      · have e1 : nfind l s = nfind (l.drop (k + 1)) s := by
          rw [HE.out, hdrop]
          simp [nfind, hps]
        have t1 : (p.1.toList == s.toList) = false := by rw [str_test]; simpa using hps
        have E1 := hide2 e1
        clear e1 HE hdrop hps hp
        go_wp2
        go_round
        case rel => exact ⟨k + 1, by omega, by go_num, E1.out⟩
        case measure => simp [intOf]; omega
    · obtain rfl : k = l.length := by omega
      have e1 : nfind l s = -1 := by rw [he]; simp [nfind]
      have E1 := hide2 e1
      clear e1 he
      go_wp2
      go_ret
      exact ⟨ret_int E1.out.symm, rfl⟩

theorem infoN : (Try.prog.info? 101).map (fun i => (i.zero, i.size, i.bytes)) = some (some (.agg #[.string .empty, .int .i64 0]), 2, 24) := by kernel_rfl

set_option maxRecDepth 100000 in
set_option maxHeartbeats 2000000 in
theorem without_ref {w : World} {B : Nat} {v : Value} {l : NL} (h : Nr w B v l) (hl : l.length ≤ 100000) (s : ByteArray) :
    Calls Try.prog 71 #[v, .string s] w fun e w' => ∃ v', e = .returned v' ∧ Nr w' w.heap.size v' (nwithout l s) ∧ Below w.heap.size w w' := by
  obtain ⟨i0, hi, hz0, hz1, hz2⟩ := info_parts infoN
  obtain ⟨ao, cap, rfl⟩ := h.form
  have HR := hide2 h.row
  go_enter Try.func71, Try.ntmps71
  go_wp2
  go_loopw [5, 6] (fun v i wr => ∃ k : Nat, k ≤ l.length ∧ i = .int .i64 k ∧ Nr wr w.heap.size v (nwithout (l.take k) s) ∧ Below w.heap.size w wr) (fun _ i _ => l.length - (intOf i).toNat)
  case atStart => exact ⟨0, by omega, rfl, ⟨rfl, .inl ⟨rfl, rfl⟩⟩, Below.refl _ _⟩
  case round =>
    obtain ⟨k, hk, rfl, hown, hB⟩ := hrel
    by_cases hkl : k < l.length
    · obtain ⟨g, cap', e, hg, hgl, hcell⟩ := HR.out (by omega)
      cases e
      obtain ⟨p, hp⟩ : ∃ p, l[k]? = some p := ⟨l[k], List.getElem?_eq_getElem hkl⟩
      obtain ⟨q0, q1⟩ := hcell k p hp
      have c0 : wr.cell? ⟨g, k * 2, none⟩ = some (.string p.1) := (hB.cell (p := ⟨g, k * 2, none⟩) hgl).trans q0
      have c1 : wr.cell? ⟨g, k * 2 + 1, none⟩ = some (.int .i64 p.2) := (hB.cell (p := ⟨g, k * 2 + 1, none⟩) hgl).trans q1
      have hts : l.take (k + 1) = l.take k ++ [p] := by
        rw [List.take_add_one, hp]; rfl
      have hc2 : (k : Int) < (l.length : Int) := by omega
      have hol : (nwithout (l.take k) s).length ≤ k := Nat.le_trans (List.length_filter_le _ _) (by simp; omega)
      have hsz := hB.size
      clear hcell q0 q1
      by_cases hps : p.1 = s
      · have e1 : nwithout (l.take (k + 1)) s = nwithout (l.take k) s := by
          rw [hts]
          simp [nwithout, hps]
        have t1 : (p.1.toList == s.toList) = true := by rw [str_test]; simpa using hps
        have E1 := hide2 e1
        clear e1 hts hps hp
        go_wp2
        go_roundw
        case rel => exact ⟨k + 1, by omega, by go_num, by rw [E1.out]; exact hown, hB⟩
        case measure => simp [intOf]; omega
      · have e1 : nwithout (l.take (k + 1)) s = nwithout (l.take k) s ++ [p] := by
          rw [hts]
          simp [nwithout, hps]
        have t1 : (p.1.toList == s.toList) = false := by rw [str_test]; simpa using hps
        have E1 := hide2 e1
        have HO := hide2 hown
        clear e1 hts hps hp
        go_wp2_with (first
          | (at_builtin; refine Hid.out ?_)
          | go_in)
        refine hide2 ?_
        refine wpList_append_own _ rfl _ _ 63 rfl w.heap.size 101 i0 (.agg #[.string .empty, .int .i64 0]) 2 24 Try.underlying63 hi hz0 hz1 hz2 rfl (by decide) u5 _ _ rfl (World.ownsRow.alloc HO.out _) ⟨wr.heap.size, 0, none⟩ 1 1 [.string p.1, .int .i64 p.2] rfl rfl (cell_two_new _ _ _ _) (by intro u hu; simp at hu; rcases hu with rfl | rfl <;> rfl) (by unfold maxLen; omega) (by omega) (by simp; omega) ?_
        intro v' w2 hown' hgrow _
        have hB2 : Below w.heap.size w w2 := (hB.alloc hsz (.cells #[.string p.1, .int .i64 p.2] 101)).trans ((Below.refl _ _).grown hgrow (by simp; omega) fun k hk => (World.ownsRow.lt HO.out k hk).1)
        have ho2 : Nr w2 w.heap.size v' (nwithout (l.take k) s ++ [p]) := by
          unfold Nr
          rw [nc_append, List.length_append]
          exact hown'
        clear hown' hgrow HO hown c0 c1
        go_frame
        go_wp2
        go_roundw
        case rel => exact ⟨k + 1, by omega, by go_num, by rw [E1.out]; exact ho2, hB2⟩
        case measure => simp [intOf]; omega
    · obtain rfl : k = l.length := by omega
      rw [List.take_length] at hown
      go_wp2
      go_ret
      exact ⟨_, rfl, hown, hB⟩
end Go.Proofs.Ytolaagbdnchhiaa
