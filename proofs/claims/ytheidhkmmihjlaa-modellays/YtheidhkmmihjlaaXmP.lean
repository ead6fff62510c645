/-
  XmP: What ModelReads asks, without memory.
-/
import Derived.Test.YtheidhkmmihjlaaXmN
set_option linter.unusedVariables false
set_option linter.unusedSimpArgs false
namespace Go.Proofs.Ytheidhkmmihjlaa
open Go.RowKit
open ML (Ro RS Srt nless fstOf od nl_irr nl_tr nl_tot)

theorem nl_z (a : ByteArray) : nless a z0 = false := by
  unfold nless z0
  rw [ByteArray.toList_eq, ByteArray.toList_eq]
  cases a.data.toList <;> rfl
theorem scn_all (S : Ms) : scn S z0 z0 = now S := by
  unfold scn
  rw [List.filter_eq_self]
  intro r _
  unfold ins
  rw [nl_z]
  rfl
theorem open_some {S : Ms} (h : S.ws.isSome = true) : S.ws.isNone = false := by cases hw : S.ws with | none => rw [hw] at h; cases h | some _ => rfl
theorem stp_scan {S : Ms} (h : S.ws.isSome = true) (fr hi : ByteArray) : stp S ⟨3, 0, fr, hi, z0, 0, 0⟩ = if badS ⟨3, 0, fr, hi, z0, 0, 0⟩ then (S, { code := 154 }) else (S, { rows := scn S fr hi }) := by
  have h2 := open_some h
  unfold stp
  rw [if_neg (by simp)]
  show (if fst0 (wrg S ⟨3, 0, fr, hi, z0, 0, 0⟩ 3) = 0 then _ else _) = _
  cases hb : badS ⟨3, 0, fr, hi, z0, 0, 0⟩ <;> simp [wrg, fst0, h2, hb, ans]
theorem stp_all {S : Ms} (h : S.ws.isSome = true) : stp S ⟨3, 0, z0, z0, z0, 0, 0⟩ = (S, { rows := now S }) := by
  rw [stp_scan h, scn_all]
  rfl
theorem stp_get {S : Ms} (h : S.ws.isSome = true) (k : ByteArray) : stp S ⟨2, 0, k, z0, z0, 0, 0⟩ = if isK k then (S, { val := (look S k).getD .empty, found := (look S k).isSome }) else (S, { code := 154 }) := by
  have h2 := open_some h
  unfold stp
  rw [if_neg (by simp)]
  show (if fst0 (wrg S ⟨2, 0, k, z0, z0, 0, 0⟩ 2) = 0 then _ else _) = _
  cases hb : isK k <;> simp [wrg, fst0, h2, hb, ans]
theorem stp_commit {S : Ms} (h : S.ws.isSome = true) (ht : isT (S.t + 1) = true) : stp S ⟨7, 0, z0, z0, z0, 0, 0⟩ = (⟨doneW (S.t + 1) S.L (S.ws.getD []), S.t + 1, none⟩, { time := S.t + 1 }) := by
  have h2 := open_some h
  unfold stp
  rw [if_neg (by simp)]
  show (if fst0 (wrg S ⟨7, 0, z0, z0, z0, 0, 0⟩ 7) = 0 then _ else _) = _
  simp [wrg, fst0, h2, ans, cmt, ht]
theorem now_key {S : Ms} (h : S.ok) {x : Ro} (hx : x ∈ now S) : isK x.k = true := by
  have h1 := ((now_mem h).1 hx).2
  unfold look at h1
  cases hq : wOf (S.ws.getD []) x.k with
  | some w =>
    obtain ⟨hw, hk⟩ := (wOf_some h.kd).1 hq
    have := (okW_iff.1 (h.ows w hw)).1
    rw [hk] at this
    exact isK_iff.2 this
  | none =>
    rw [hq] at h1
    obtain ⟨r, hr, _⟩ := Option.map_eq_some_iff.1 h1
    obtain ⟨hr1, hr2⟩ := (fst_iff h.srt).1 hr
    have := (rightR_iff.1 (h.rows r hr1)).1
    rw [hr2] at this
    exact isK_iff.2 this
theorem now_found {S : Ms} (h : S.ok) {k : ByteArray} : (look S k).isSome = true ↔ ∃ x ∈ now S, x.k = k := by
  constructor
  · intro q
    obtain ⟨v, hv⟩ := Option.isSome_iff_exists.1 q
    exact ⟨⟨k, v, 0⟩, (now_mem h).2 ⟨rfl, hv⟩, rfl⟩
  · rintro ⟨x, hx, rfl⟩
    rw [((now_mem h).1 hx).2]; rfl
theorem doneD_zt (t : Int) (w : Wr) : ∀ L : List Ro, (doneD L w t).map zt = doneD (L.map zt) w 0
  | [] => by rw [doneD_nil, List.map_nil, doneD_nil]; unfold newR; cases w.gone <;> rfl
  | a :: l => by
    rw [List.map_cons, doneD_cons, doneD_cons]
    show _ = if nless a.k w.key = true then _ else _
    split
    · rw [List.map_cons, doneD_zt t w l]
    · rw [List.map_append]
      congr 1
      · unfold newR; cases w.gone <;> rfl
      · rw [cutK_cons, cutK_cons]
        show _ = if a.k = w.key then _ else _
        split
        · rfl
        · rfl
theorem doneW_zt (t : Int) : ∀ (ws : List Wr) (L : List Ro), (doneW t L ws).map zt = doneW 0 (L.map zt) ws
  | [], L => rfl
  | w :: ws, L => by
    show (doneW t (doneD L w t) ws).map zt = doneW 0 (doneD (L.map zt) w 0) ws
    rw [doneW_zt t ws, doneD_zt]
/-- Which place of rows a key has. -/
def plc (l : List Ro) (k : ByteArray) : Option Nat := l.findIdx? fun r => decide (r.k = k)
theorem take_filter {p : Ro → Bool} {l : List Ro} {i : Nat} {x : Ro} (h : l[i]? = some x) : ((l.take (i + 1)).filter p) = (l.take i).filter p ++ (if p x then [x] else []) := by
  rw [ML.take_snoc h, List.filter_append]
  cases hp : p x <;> simp [hp]
theorem filter_at {p : Ro → Bool} {l : List Ro} {i : Nat} {x : Ro} (h : l[i]? = some x) (hp : p x = true) : (l.filter p)[((l.take i).filter p).length]? = some x := by
  obtain ⟨hlt, hx⟩ := List.getElem?_eq_some_iff.1 h
  have hd : l.drop i = x :: l.drop (i + 1) := by rw [List.drop_eq_getElem_cons hlt, hx]
  have e : l = l.take i ++ (x :: l.drop (i + 1)) := by rw [← hd, List.take_append_drop]
  have e2 : l.filter p = (l.take i).filter p ++ (x :: (l.drop (i + 1)).filter p) := by
    conv => lhs; rw [e]
    rw [List.filter_append, List.filter_cons_of_pos hp]
  rw [e2, List.getElem?_append_right (Nat.le_refl _), Nat.sub_self]
  rfl
section
set_option maxHeartbeats 1000000
set_option maxRecDepth 100000
variable {w : World} {ao : Option Addr} {len cap : Nat} {L : List Ro}
/-- The law's own search. -/
theorem find_any (h : RS w ao len cap L) (k : ByteArray) : Calls Try.prog 22 #[.slice ao len cap, .string k] w fun e w' => (∃ n : Int, e = .returned (.int .i64 n) ∧ (0 ≤ n ↔ ∃ x ∈ L, x.k = k)) ∧ w' = w := by
  obtain rfl := h.1
  have hmx : (L.length : Int) ≤ 9223372036854775807 := by have := h.2.1; have := h.2.2.1; unfold maxLen at this; omega
  have HA := xhide h
  clear h
  go_enter Try.func22, Try.ntmps22
  go_wp2_with fail
  go_loopw [5] (fun i wr => ∃ j : Nat, j ≤ L.length ∧ i = .int .i64 (j : Nat) ∧ Hid (∀ x ∈ L.take j, x.k ≠ k) ∧ wr = w) (fun i _ => L.length - (intOf i).toNat)
  case atStart => exact ⟨0, by omega, rfl, xhide (by simp), rfl⟩
  case round =>
    obtain ⟨j, hj, rfl, HN, rfl⟩ := hrel
    by_cases hlt : j < L.length
    · obtain ⟨x, hx⟩ := some_at rfl hlt
      obtain ⟨g, off, rfl, hgl, hc⟩ := ML.RS.at HA.out (by omega)
      have c0 := (hc j x hx).1
      have d1 : (j : Int) < (L.length : Int) := by omega
      have HTS := xhide (ML.take_snoc hx)
      have HX := xhide (List.mem_of_getElem? hx)
      clear hc
      by_cases he : x.k = k
      · have te : (x.k.toList == k.toList) = true := by rw [he]; simp
        go_wp2
        go_ret
        exact ⟨⟨(j : Int), rfl, fun _ => ⟨x, HX.out, he⟩, fun _ => by omega⟩, rfl⟩
      · have te : (x.k.toList == k.toList) = false := by
          cases q : (x.k.toList == k.toList) with
          | false => rfl
          | true =>
            have e1 : x.k.toList = k.toList := by simpa using q
            rw [ByteArray.toList_eq, ByteArray.toList_eq] at e1
            exact absurd (ByteArray.ext (Array.toList_inj.1 e1)) he
        have NX : Hid (∀ y ∈ L.take (j + 1), y.k ≠ k) := xhide (fun y hy => by
          rw [HTS.out] at hy
          rcases List.mem_append.1 hy with q | q
          · exact HN.out y q
          · simp at q; rw [q]; exact he)
        go_wp2_with fail
        go_roundw
        case rel => exact ⟨j + 1, by omega, by go_num, NX, trivial⟩
        case measure => simp [intOf]; omega
    · have e1 : j = L.length := by omega
      subst e1
      have d1 : ¬ (L.length : Int) < (L.length : Int) := by omega
      have hN := HN.out
      rw [List.take_length] at hN
      have FIN := xhide hN
      clear hN
      go_wp2
      go_ret
      exact ⟨⟨-1, rfl, fun q => absurd q (by omega), fun ⟨x, hx, e⟩ => absurd e (FIN.out x hx)⟩, rfl⟩
end
end Go.Proofs.Ytheidhkmmihjlaa
