/-
  SkipAlone, where there is no list; what was put in.
-/
import Derived.Test.YtcncimnhbggdaaaDoorSj5
import Derived.Test.YtcncimnhbggdaaaDoorSi3
set_option linter.unusedVariables false
set_option linter.unusedSimpArgs false
namespace Go.Proofs.YtcncimnhbggdaaaDoor
open Go.RowKit Go.Maps Go.Sort

theorem dn_all (n : Nat) : dnT n n = List.replicate n false := by simp [dnT]
theorem rep_count (n : Nat) : (List.replicate n false).count true = 0 := by simp [List.count_replicate]

/-- A list holds just what was put in, in the order of putting in. -/
def Inn (s : Sl) (ins : List AskR) : Prop := ks s = (.empty, 0, 8) :: ins.map fun a => (a.key, a.ref, hgt a.h)
section
variable {s s' : Sl} {ins : List AskR}
theorem Inn.start : Inn s0 [] := rfl
theorem Inn.len (h : Inn s ins) : s.tw.length = ins.length + 1 := by
  have := congrArg List.length h
  simpa [ks] using this
theorem Inn.at (h : Inn s ins) {i : Nat} {a : AskR} (ha : ins[i]? = some a) : i + 1 < s.tw.length ∧ (s.at (i + 1)).k = a.key ∧ (s.at (i + 1)).r = a.ref := by
  obtain ⟨h1, h2, h3, h4⟩ := ks_get h (i := i + 1) (x := (a.key, a.ref, hgt a.h)) (by simp [ha])
  exact ⟨h1, h2, h3⟩
theorem Inn.of (h : Inn s ins) {x : Nat} (h1 : 1 ≤ x) (hx : x < s.tw.length) : ∃ a, ins[x - 1]? = some a ∧ (s.at x).k = a.key ∧ (s.at x).r = a.ref := by
  have hl := h.len
  have hi : x - 1 < ins.length := by omega
  have := h.at (List.getElem?_eq_getElem hi)
  rw [show x - 1 + 1 = x by omega] at this
  exact ⟨_, List.getElem?_eq_getElem hi, this.2.1, this.2.2⟩
theorem Inn.cells (h : Inn s ins) (hsp : s.sp = []) : s.cells.length = 8 + (ins.map fun a => hgt a.h).sum := by
  rw [cells_len, h, hsp]
  simp [Function.comp_def]
theorem Inn.same (h : Inn s ins) (e : ks s' = ks s) : Inn s' ins := e.trans h
theorem Inn.put (h : Inn s ins) (a : AskR) (e : ks s' = ks s ++ [(a.key, a.ref, hgt a.h)]) : Inn s' (ins ++ [a]) := by
  unfold Inn
  rw [e, h]
  simp
theorem Inn.keys (h : Inn s ins) : kys s = ins.map fun a => a.key.data.toList := by
  have h1 : kys s = ((ks s).tail).map fun x => kt x.1 := by
    unfold kys ks
    rw [← List.map_tail, List.map_map]
    rfl
  rw [h1, h]
  simp [kt, Function.comp_def]
/-- An ask's key is not in, or just once. -/
theorem Inn.one (h : Inn s ins) (hok : s.ok) {i j : Nat} {a b : AskR} (ha : ins[i]? = some a) (hb : ins[j]? = some b) (e : a.key = b.key) : i = j := by
  obtain ⟨a1, a2, a3⟩ := h.at ha
  obtain ⟨b1, b2, b3⟩ := h.at hb
  have hne := hok.one (i + 1) (j + 1)
  by_cases q : i = j
  · exact q
  · exfalso
    have := hne a1 b1 (by rw [a2, b2, e])
    omega
end

section
variable {w : World}
set_option maxRecDepth 100000 in
set_option maxHeartbeats 4000000 in
theorem alone_none (size : Int) (v : Value) (hT : Tab w) (hs : size < 1 ∨ 65536 < size) :
    Calls Tryd.prog 3 #[.int .i64 size, v] w fun e w' => e = .returned (.bool true) ∧ Below w.heap.size w w' := by
  have HS := hide2 (shown_any hT)
  clear hT
  go_enter Tryd.func3, Tryd.ntmps3
  go_wp2_with fail
  refine HS.out.mono ?_
  rintro e w1 ⟨rfl, hb1⟩
  have HM := hide2 (New_bad size w1 hs)
  clear HS
  go_wp2_with fail
  refine HM.out.mono ?_
  rintro e w2 ⟨rfl, q2⟩
  subst q2
  clear HM
  rcases Decidable.em (size < 1) with h1 | h1
  · have d1 : decide (size < 1) = true := by simp; omega
    clear hs
    go_wp2
    go_ret
    exact ⟨rfl, hb1⟩
  · have d1 : decide (size < 1) = false := by simp; omega
    have d2 : decide (65536 < size) = true := by simp; omega
    clear hs
    go_wp2
    go_ret
    exact ⟨rfl, hb1⟩
set_option maxRecDepth 100000 in
set_option maxHeartbeats 4000000 in
theorem alone_small (size : Nat) (v : Value) (hT : Tab w) (h1 : 1 ≤ size) (h2 : size < 8) :
    Calls Tryd.prog 3 #[.int .i64 (size : Int), v] w fun e w' => e = .returned (.bool true) ∧ Below w.heap.size w w' := by
  have HS := hide2 (shown_any hT)
  have HT0 := hide2 hT
  have hw0 := hT.1
  clear hT
  have d2 : decide ((size : Int) < 8) = true := by simp; omega
  go_enter Tryd.func3, Tryd.ntmps3
  go_wp2_with fail
  refine HS.out.mono ?_
  rintro e w1 ⟨rfl, hb1⟩
  have HM := hide2 (New_any size w1 h1 (by omega))
  have HB1 := hide2 hb1
  have hs1 := hb1.size
  have HT1 := hide2 (HT0.out.below hb1 hw0)
  clear HS hb1
  go_wp2_with fail
  refine HM.out.mono ?_
  rintro e w2 ⟨rfl, ⟨F, hA⟩, hb2⟩
  rw [← up_zero] at hA
  have HN := hide2 (new_full hA (HT1.out.below hb2 HT1.out.1) (by omega) (by have := HT1.out.1; omega) h2)
  have HB2 : Hid (Below w.heap.size w w2) := hide2 (below_up HB1.out hs1 hb2)
  have hs2 := hb2.size
  clear HM hA hb2
  go_wp2_with fail
  refine HN.out.mono ?_
  rintro e w3 ⟨rfl, ⟨F', hA2⟩, hF⟩
  have hu := Used_any hA2
  rw [dn_all, rep_count] at hu
  have HU := hide2 hu
  have HB3 := hide2 (HB2.out.trans (hF.to (fun j hj e => by omega) (by omega)))
  clear HN hA2 hu hF
  go_wp2_with fail
  refine HU.out.mono ?_
  rintro e w4 ⟨rfl, q4⟩
  subst q4
  go_wp2
  go_ret
  exact ⟨rfl, HB3.out⟩
end
end Go.Proofs.YtcncimnhbggdaaaDoor
