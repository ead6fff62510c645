/-
  Rows of numbers; Index, Contains of numbers.
-/
import Derived.Test.YtopihgdbfhiejaaDoorC7
import Derived.Test.YtopihgdbfhiejaaDoorSeq
import Derived.Laws.OwnMore
import Derived.Maps.AppendAt
import Derived.Lib.OwnKind
import Derived.Maps.RangeWalk
set_option linter.unusedVariables false
set_option linter.unusedSimpArgs false
namespace Go.Proofs.YtopihgdbfhiejaaDoor
open Go.RowKit

abbrev ih (n : Int) : List Value := [.int .i64 n]
theorem infoH : (Tryd.prog.info? 3).map (fun i => (i.zero, i.size, i.bytes)) = some (some (.int .i64 0), 1, 8) := by kernel_rfl
theorem hrow_fr {G : Nat → Prop} {w w' : World} {B : Nat} {e : TypeId} {s : Nat} {v : Value} {k : Nat} {xs : List Value} (h : w.ownsRow B e s v k xs) (hF : Fr G w w') (hn : ∀ j, v.ownBlock = some j → ¬ G j) : w'.ownsRow B e s v k xs := by
  refine ⟨h.1, ?_⟩
  rcases h.2 with h2 | ⟨g, cap, cur, e1, hg, hh, r1, r2, r3, r4⟩
  · exact .inl h2
  · refine .inr ⟨g, cap, cur, e1, hg, (hF.block g (Array.getElem?_eq_some_iff.1 hh).1 (hn g (by rw [e1]; rfl))).trans hh, r1, r2, r3, r4⟩
theorem hrow_succ {W : World} {base : Nat} {e : TypeId} {size : Nat} {v : Value} {k : Nat} {xs : List Value} (h : W.ownsRow base e size v (k + 1) xs) : ∃ g cap, v = .slice (some ⟨g, 0, none⟩) (k + 1) cap := by
  rcases h.2 with ⟨_, h0⟩ | ⟨g, cap, cur, rfl, _⟩
  · omega
  · exact ⟨g, cap, rfl⟩
theorem hcell_new (w : World) (x : Value) (t : TypeId) : ∀ j u, [x][j]? = some u → (w.alloc (.cells #[x] t)).cell? ((⟨w.heap.size, 0, none⟩ : Addr).add j) = some u := by
  intro j u h
  have hb : (w.alloc (.cells #[x] t)).heap[w.heap.size]? = some (.cells #[x] t (0, 0)) := heap_alloc_new w _
  rw [addr_add]
  rw [Go.Joins.cell_of_block hb]
  rw [← Array.getElem?_toList]
  simpa using h

/-- A row of numbers that are none below 0. -/
def nv (c : Nat) : Value := .int .i64 (c : Int)
def Hr (w : World) (base : Nat) (v : Value) (l : List Nat) : Prop := w.ownsRow base 3 1 v l.length (l.map nv)
theorem Hr.form {w : World} {base : Nat} {v : Value} {l : List Nat} (h : Hr w base v l) : ∃ ao cap, v = .slice ao l.length cap := by
  rcases h.2 with ⟨rfl, h0⟩ | ⟨g, cap, cur, rfl, _⟩
  · exact ⟨none, 0, by rw [h0]⟩
  · exact ⟨_, cap, rfl⟩
theorem Hr.kind {w : World} {base : Nat} {v : Value} {l : List Nat} (h : Hr w base v l) {j : Nat} (e : v.ownBlock = some j) : ∃ c fz, w.heap[j]? = some (.cells c 3 fz) := Go.Lib.ownsRow_kind h j e
theorem Hr.seq {w : World} {base : Nat} {v : Value} {l : List Nat} (h : Hr w base v l) : ∃ ao cap, v = .slice ao l.length cap ∧ Seq 1 ih w ao l.length cap (l.map fun c : Nat => (c : Int)) := by
  rcases h.2 with ⟨rfl, h0⟩ | ⟨g, cap, cur, rfl, hg, hh, hn, hm, hs, ht⟩
  · exact ⟨none, 0, by rw [h0], ⟨by simp, by omega, Nat.zero_le _, fun h => absurd h (by omega)⟩⟩
  · refine ⟨_, cap, rfl, ⟨by simp, hn, hm, fun _ => ⟨g, 0, rfl, (Array.getElem?_eq_some_iff.1 hh).1, fun i x hi j u hj => ?_⟩⟩⟩
    have hj0 : j = 0 := by
      rcases j with _ | j
      · rfl
      · simp [ih] at hj
    subst hj0
    simp [ih] at hj
    subst hj
    rw [Go.Joins.cell_of_block hh]
    have hi2 : i < l.length := by
      have := (List.getElem?_eq_some_iff.1 hi).1
      simpa using this
    rw [← Array.getElem?_toList]
    have : (cur.toList.take (l.length * 1))[i]? = some (nv l[i]) := by rw [ht]; simp [hi2]
    rw [List.getElem?_take, if_pos (by omega)] at this
    have e : x = (l[i] : Int) := by
      rw [List.getElem?_map, List.getElem?_eq_getElem hi2] at hi
      simpa using hi.symm
    rw [e]
    simpa [nv] using this
theorem Hr.at {w : World} {base : Nat} {v : Value} {l : List Nat} (h : Hr w base v l) {i : Nat} (hi : i < l.length) : ∃ g cap, v = .slice (some ⟨g, 0, none⟩) l.length cap ∧ w.cell? ⟨g, i, none⟩ = some (.int .i64 (l.getD i 0 : Nat)) := by
  rcases h.2 with ⟨rfl, h0⟩ | ⟨g, cap, cur, rfl, hg, hh, hn, hm, hs, ht⟩
  · omega
  · refine ⟨g, cap, rfl, ?_⟩
    rw [Go.Joins.cell_of_block hh, ← Array.getElem?_toList]
    have : (cur.toList.take (l.length * 1))[i]? = some (nv l[i]) := by rw [ht]; simp [hi]
    rw [List.getElem?_take, if_pos (by omega)] at this
    simpa [nv, List.getD, List.getElem?_eq_getElem hi] using this

set_option maxRecDepth 100000 in
set_option maxHeartbeats 2000000 in
theorem hIndex_any {w : World} {ao : Option Addr} {len cap : Nat} {ns : List Int} (hs : Seq 1 ih w ao len cap ns) (x : Int) :
    Calls Tryd.prog 95 #[.slice ao len cap, .int .i64 x] w fun e w' => (∃ r : Int, e = .returned (.int .i64 r) ∧ (0 ≤ r ↔ x ∈ ns)) ∧ w' = w := by
  have hcap := hs.2.1
  have hmax := hs.2.2.1
  unfold maxLen at hmax
  go_enter Tryd.func95, Tryd.ntmps95
  go_wp2
  go_loop [8, 5] (fun i _ => ∃ k : Nat, k ≤ len ∧ i = .int .i64 k ∧ Hid (x ∉ ns.take k)) (fun i _ => len - (intOf i).toNat)
  case atStart => exact ⟨0, by omega, rfl, hide2 (by simp)⟩
  case round =>
    obtain ⟨k, hk, rfl, hno⟩ := hrel
    by_cases hkl : k < len
    · obtain ⟨b, off, rfl, hbl, hcell⟩ := hs.2.2.2 (by omega)
      obtain ⟨o, ho⟩ := some_at hs.1 hkl
      have q0 : w.cell? ⟨b, off + k, none⟩ = some (.int .i64 o) := by have := hcell k o ho 0 _ rfl; simpa using this
      have hmem : o ∈ ns := List.mem_of_getElem? ho
      have hk2 : k < ns.length := by rw [hs.1]; exact hkl
      have hat : ns[k] = o := by rw [List.getElem?_eq_getElem hk2] at ho; exact Option.some.inj ho
      have HE : Hid (ns.take (k + 1) = ns.take k ++ [o]) := hide2 (by rw [← List.take_append_getElem hk2, hat])
      have hkl2 : (k : Int) < (len : Int) := by omega
      by_cases hx : x = o
      · subst hx
        have HM : Hid (x ∈ ns) := hide2 hmem
        clear hcell ho hat hmem
        go_wp2
        go_ret
        exact ⟨⟨_, rfl, fun _ => HM.out, fun _ => by omega⟩, rfl⟩
      · have hd : (x == o) = false := by simpa using hx
        have HX := hide2 hx
        clear hcell ho hat
        go_wp2
        go_round
        case rel => exact ⟨k + 1, by omega, by go_num, hide2 (by rw [HE.out]; intro e; rcases List.mem_append.1 e with e | e; exact hno.out e; exact HX.out (by simpa using e))⟩
        case measure => simp [intOf]; omega
    · obtain rfl : k = len := by omega
      have HO : Hid (x ∉ ns) := hide2 (by
        have h := hno.out
        rw [show ns.take k = ns from by rw [← hs.1]; exact List.take_length] at h
        exact h)
      go_wp2
      go_ret
      exact ⟨⟨_, rfl, fun h => absurd h (by decide), fun h => absurd h HO.out⟩, rfl⟩

set_option maxRecDepth 100000 in
theorem hContains_any {w : World} {ao : Option Addr} {len cap : Nat} {ns : List Int} (hs : Seq 1 ih w ao len cap ns) (x : Int) :
    Calls Tryd.prog 81 #[.slice ao len cap, .int .i64 x] w fun e w' => e = .returned (.bool (ns.contains x)) ∧ w' = w := by
  have HI := hide2 (hIndex_any hs x)
  clear hs
  go_enter Tryd.func81, Tryd.ntmps81
  go_wp2_with fail
  refine HI.out.mono ?_
  rintro e w' ⟨⟨r, rfl, hr⟩, rfl⟩
  have HR : Hid (decide (0 ≤ r) = ns.contains x) := hide2 (by
    rw [Bool.eq_iff_iff]
    simpa using hr)
  clear HI hr
  go_wp2
  go_ret
  exact ⟨ret_bool HR.out, rfl⟩
end Go.Proofs.YtopihgdbfhiejaaDoor
